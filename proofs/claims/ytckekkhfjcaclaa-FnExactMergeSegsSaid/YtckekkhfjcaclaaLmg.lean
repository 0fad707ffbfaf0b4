/-
  The walk of the law FnExactMergeSegs.
  Conditions: the segments that come in can be read.
-/
import Derived.Test.YtckekkhfjcaclaaMgp
import Derived.Test.YtckekkhfjcaclaaLso
namespace Go.Proofs.Ytckekkhfjcaclaa
set_option linter.unusedVariables false
open Go.RowKit
theorem merge8 {G : Nat → Option Addr → Nat → World → Option Addr → Nat → Option Addr → Nat → Prop} {F : Nat → Option Addr → Nat → World → Prop} {R : Prop} (main : (∀ g A c W Ai ci Aj cj, F g A c W → G g A c W Ai ci Aj cj) → R) (key : ∀ g A c W Ai ci Aj cj, F g A c W → G g A c W Ai ci Aj cj) : R := main key
theorem mgSg_len (f t m : Int) (l1 : List Chg) (f2 t2 m2 : Int) (l2 : List Chg) : (mgSg f t m l1 f2 t2 m2 l2).2.2.2.length ≤ 8 := by
  unfold mgSg
  split
  · exact risM_len _ 8
  · exact Nat.zero_le _
theorem markCL_c (A : Option Addr) (n c k lo hi : Nat) (f : Nat → Value) (w : World) (h : Sr w lo hi A 45 (n * 3) f) (hn : n ≤ 1048576) (hk : k ≤ 3145729) :
    Calls Try.prog 68 #[.slice A n c, .int .i64 k] w fun e w' => e = .returned (.int .i64 ((k + n * 3 : Nat) : Int)) ∧ Sr w' lo hi A 45 (n * 3) (markAt k) ∧ Rg lo hi w w' := markChangeS_c A n c k lo hi f w h hn hk
set_option maxHeartbeats 1000000 in
theorem markSegL_c (f t m : Int) (A : Option Addr) (n c k lo hi : Nat) (F : Nat → Value) (w : World) (h : Sr w lo hi A 45 (n * 3) F) (hi' : hi ≤ w.heap.size) (hn : n ≤ 1048576) (hk : k ≤ 3145729) :
    Calls Try.prog 34 #[.agg #[.int .i64 f, .int .i64 t, .int .i64 m, .slice A n c], .int .i64 k] w fun e w' => e = .returned (.int .i64 ((k + n * 3 : Nat) : Int)) ∧ Rg lo hi w w' := by
  have hx0 := (Nx.refl w).alloc (.cells #[.int .i64 f, .int .i64 t, .int .i64 m, .slice A n c] 31)
  go_enter Try.func34, Try.ntmps34
  go_wp2_with fail
  refine (markCL_c A n c k lo hi F _ (h.nx hx0) hn (by omega)).mono ?_
  rintro e w1 ⟨rfl, hs, hr⟩
  obtain ⟨q, Hq⟩ : ∃ q, Hid (k + n * 3 = q) := ⟨_, rfl⟩
  rw [Hq.out]
  go_wp2
  go_ret
  exact ⟨by rw [Hq.out]; rfl, (Rg.of_nx hx0).trans hr⟩
set_option maxRecDepth 100000 in
set_option maxHeartbeats 8000000 in
theorem lawMergeSegs (f t m : Int) (A : Option Addr) (c : Nat) (l1 : List Chg) (f2 t2 m2 : Int) (A2 : Option Addr) (c2 : Nat) (l2 : List Chg) (w : World) (h1 : Chs w w.heap.size A l1) (hn1 : l1.length ≤ 2 ^ 63 - 1) (h2 : Chs w w.heap.size A2 l2) (hn2 : l2.length ≤ 2 ^ 63 - 1) :
    Calls Try.prog 9 #[.agg #[.int .i64 f, .int .i64 t, .int .i64 m, .slice A l1.length c], .agg #[.int .i64 f2, .int .i64 t2, .int .i64 m2, .slice A2 l2.length c2]] w fun e w' => e = .returned (.bool true) ∧ Nx w w' := by
  obtain ⟨⟨q0, q1, q2, qs⟩, Hq⟩ : ∃ y, Hid (mgSg f t m l1 f2 t2 m2 l2 = y) := ⟨_, rfl⟩
  obtain ⟨cd, Hc⟩ : ∃ y, Hid (mgCd f t m l1 f2 t2 m2 l2 = y) := ⟨_, rfl⟩
  have hy : qs.length ≤ 1048576 := by have := mgSg_len f t m l1 f2 t2 m2 l2; rw [Hq.out] at this; exact Nat.le_trans this (by decide)
  go_enter Try.func9, Try.ntmps9
  go_wp2_with fail
  have bL := (Box.new w 49 #[.int .i64 f, .int .i64 t, .int .i64 m, .slice A l1.length c]).alloc (.cells #[.int .i64 f2, .int .i64 t2, .int .i64 m2, .slice A2 l2.length c2] 49)
  have bM := Box.new (w.alloc (.cells #[.int .i64 f, .int .i64 t, .int .i64 m, .slice A l1.length c] 49)) 49 #[.int .i64 f2, .int .i64 t2, .int .i64 m2, .slice A2 l2.length c2]
  have hX := ((Nx.refl w).alloc (.cells #[.int .i64 f, .int .i64 t, .int .i64 m, .slice A l1.length c] 49)).alloc (.cells #[.int .i64 f2, .int .i64 t2, .int .i64 m2, .slice A2 l2.length c2] 49)
  simp only [World.size_alloc] at bM
  have zb := bM.lt
  generalize (w.alloc (.cells #[.int .i64 f, .int .i64 t, .int .i64 m, .slice A l1.length c] 49)).alloc (.cells #[.int .i64 f2, .int .i64 t2, .int .i64 m2, .slice A2 l2.length c2] 49) = W at *
  refine (szSeg_c f t m A l1.length c _ _ hn1 (by omega) (by omega)).mono ?_
  rintro e w1 ⟨rfl, hx1⟩
  by_cases hle : (l1.length : Int) ≤ 1048576
  case neg =>
    rw [← szR_no (by omega)]
    go_wp2
    go_ret
    exact ⟨rfl, hX.trans hx1⟩
  rw [← szR_yes hle]
  have hd1 : decide (1048576 - (l1.length : Int) < 0) = false := by simp; omega
  have zhx1 := hx1.size; replace bL := bL.nx hx1; replace bM := bM.nx hx1; replace hX := hX.trans hx1
  obtain ⟨lc0, lc1, lc2, lc3⟩ := bM.d4
  go_wp2_with fail
  refine (szSeg_c f2 t2 m2 A2 l2.length c2 _ _ hn2 (by omega) (by omega)).mono ?_
  rintro e w2 ⟨rfl, hx2⟩
  by_cases hle2 : (l2.length : Int) ≤ 1048576 - (l1.length : Int)
  case neg =>
    rw [← szR_no (by omega)]
    go_wp2
    go_ret
    exact ⟨rfl, hX.trans hx2⟩
  rw [← szR_yes hle2]
  have hd2 : decide (1048576 - (l1.length : Int) - (l2.length : Int) < 0) = false := by simp; omega
  replace hn1 : l1.length ≤ 1048576 := by omega
  replace hn2 : l2.length ≤ 1048576 := by omega
  clear lc0 lc1 lc2 lc3
  have zhx2 := hx2.size; replace bL := bL.nx hx2; replace bM := bM.nx hx2; replace hX := hX.trans hx2
  go_wp2_with fail
  refine merge8 (F := (fun gq Aq cq Wq => Box Wq gq 31 #[.int .i64 q0, .int .i64 q1, .int .i64 q2, .slice Aq qs.length cq] ∧ Sl Wq w2.heap.size Aq 45 (qs.length * 3) (chAt qs) ∧ w2.heap.size ≤ gq ∧ Nx w2 Wq)) (G := ?_) (fun key => ?_) ?_
  rotate_left
  · have hXs : Nx w2 w2.drew := (Nx.refl w2).drew
    have hXk := hX
    have hX := hXk.drew
    clear hXk
    have zd : w2.heap.size ≤ w2.drew.heap.size := Nat.le_refl _
    have bLk := bL
    have bL : Box w2.drew w.heap.size 49 #[.int .i64 f, .int .i64 t, .int .i64 m, .slice A l1.length c] := bLk
    clear bLk
    have bMk := bM
    have bM : Box w2.drew (w.heap.size + 1) 49 #[.int .i64 f2, .int .i64 t2, .int .i64 m2, .slice A2 l2.length c2] := bMk
    clear bMk
    have zbl := bM.lt
    refine wp_region_plan (.t 0 (.t 2 (.b 1 (.b 3 (.b 4 (.t 5 (.t 6 (.t 7 (.c 8 (.c 9 (.t 10 .e)))))) 8 (.c 4 (.t 5 (.t 6 (.t 7 (.c 9 (.t 10 .e))))))) 8 (.c 3 (.c 4 (.t 5 (.t 6 (.t 7 (.c 9 (.t 10 .e)))))))) 8 (.c 1 (.c 3 (.c 4 (.t 5 (.t 6 (.t 7 (.c 9 (.t 10 .e))))))))))) (fun w' => (w'.cell? ⟨w.heap.size, 0, none⟩ = some (.int .i64 f) ∧ w'.cell? ⟨w.heap.size, 1, none⟩ = some (.int .i64 t) ∧ w'.cell? ⟨w.heap.size, 2, none⟩ = some (.int .i64 m) ∧ w'.cell? ⟨w.heap.size, 3, none⟩ = some (.slice A l1.length c)) ∧ (w'.cell? ⟨(w.heap.size + 1), 0, none⟩ = some (.int .i64 f2) ∧ w'.cell? ⟨(w.heap.size + 1), 1, none⟩ = some (.int .i64 t2) ∧ w'.cell? ⟨(w.heap.size + 1), 2, none⟩ = some (.int .i64 m2) ∧ w'.cell? ⟨(w.heap.size + 1), 3, none⟩ = some (.slice A2 l2.length c2))) (by kernel_rfl) (by kernel_rfl) rfl (by kernel_rfl) (fun _ _ d _ _ h => by cases d <;> exact h) (by exact ⟨bL.d4, bM.d4⟩) ?_
    simp only [psOf, List.getD_cons_zero, List.getD_cons_succ]
    generalize w2.drew = W0 at *
    repeat (first | (refine HP.take (v := ?_) (by rfl) ?_ ?_; rotate_left; (· (intro w hSw; (try dsimp only at hSw); go_simp; try with_reducible rfl)); (try simp only [Act.put, List.setIfInBounds_toArray, List.set_cons_zero, List.set_cons_succ])) | (refine HP.skip (by rfl) ?_; (try simp only [Act.put, List.setIfInBounds_toArray, List.set_cons_zero, List.set_cons_succ])))
    refine HP.both ?_ ?_
    · refine CallStep.mk (by rfl) (fun K hK => ?_)
      go_simp
      refine (toSeg_c f t m A c w.heap.size l1 _ (h1.below hX (Nat.le_refl _)) hX.size hn1).mono ?_; rintro e v1 ⟨Ai, ci, rfl, hi, hv1⟩; have zhv1 := hv1.size; replace bL := bL.nx hv1; replace bM := bM.nx hv1; replace hX := hX.trans hv1; replace hXs := hXs.trans hv1; (try replace bz := bz.nx hv1); (try replace hi := hi.nx hv1); (try replace hj := hj.nx hv1); (try replace hS := hS.nx hv1)
      go_wp2_with fail
      refine hK.out _ _ (by exact ⟨bL.d4, bM.d4⟩) ?_
      clear hK K
      try simp only [Act.put, List.setIfInBounds_toArray, List.set_cons_zero, List.set_cons_succ]
      refine HP.both ?_ ?_
      · refine CallStep.mk (by rfl) (fun K hK => ?_)
        go_simp
        refine (toSeg_c f2 t2 m2 A2 c2 w.heap.size l2 _ (h2.below hX (Nat.le_refl _)) hX.size hn2).mono ?_; rintro e v2 ⟨Aj, cj, rfl, hj, hv2⟩; have zhv2 := hv2.size; replace bL := bL.nx hv2; replace bM := bM.nx hv2; replace hX := hX.trans hv2; replace hXs := hXs.trans hv2; (try replace bz := bz.nx hv2); (try replace hi := hi.nx hv2); (try replace hj := hj.nx hv2); (try replace hS := hS.nx hv2)
        go_wp2_with fail
        refine hK.out _ _ (by exact ⟨bL.d4, bM.d4⟩) ?_
        clear hK K
        try simp only [Act.put, List.setIfInBounds_toArray, List.set_cons_zero, List.set_cons_succ]
        refine HP.both ?_ ?_
        · refine CallStep.mk (by rfl) (fun K hK => ?_)
          go_simp
          refine (specMergeSegs_c f t m Ai ci l1 f2 t2 m2 Aj cj l2 _ _ hi.row hj.row (Nat.le_refl _) hn1 hn2).mono ?_; intro e v3 hR; obtain ⟨A9, c9, rfl, hS, hv3⟩ := hR.un Hq.out Hc.out; replace hS := hS.low (lo' := w2.heap.size) (by have := hXs.size; omega); have zhv3 := hv3.size; replace bL := bL.nx hv3; replace bM := bM.nx hv3; replace hX := hX.trans hv3; replace hXs := hXs.trans hv3; (try replace bz := bz.nx hv3); (try replace hi := hi.nx hv3); (try replace hj := hj.nx hv3); (try replace hS := hS.nx hv3)
          go_wp2_with fail
          refine hK.out _ _ (by exact ⟨bL.d4, bM.d4⟩) ?_
          clear hK K
          try simp only [Act.put, List.setIfInBounds_toArray, List.set_cons_zero, List.set_cons_succ]
          repeat (first | (refine HP.take (v := ?_) (by rfl) ?_ ?_; rotate_left; (· (intro w hSw; (try dsimp only at hSw); go_simp; try with_reducible rfl)); (try simp only [Act.put, List.setIfInBounds_toArray, List.set_cons_zero, List.set_cons_succ])) | (refine HP.skip (by rfl) ?_; (try simp only [Act.put, List.setIfInBounds_toArray, List.set_cons_zero, List.set_cons_succ])))
          refine HP.call ?_
          have bz := Box.new v3 31 #[.int .i64 0, .int .i64 0, .int .i64 0, .slice none 0 0]
          have hz := (Nx.refl v3).alloc (.cells #[.int .i64 0, .int .i64 0, .int .i64 0, .slice none 0 0] 31)
          have zlt : v3.heap.size < (v3.alloc (.cells #[.int .i64 0, .int .i64 0, .int .i64 0, .slice none 0 0] 31)).heap.size := by simp
          have zhz := hz.size; replace bL := bL.nx hz; replace bM := bM.nx hz; replace hX := hX.trans hz; replace hXs := hXs.trans hz; (try replace bz := bz.nx hz); (try replace hi := hi.nx hz); (try replace hj := hj.nx hz); (try replace hS := hS.nx hz)
          refine CallStep.mk (by rfl) (fun K hK => ?_)
          go_simp
          refine hK.out _ _ (by exact ⟨bL.d4, bM.d4⟩) ?_
          clear hK K
          try simp only [Act.put, List.setIfInBounds_toArray, List.set_cons_zero, List.set_cons_succ]
          change HP _ _ _ _ _ _ (v3.alloc (.cells #[.int .i64 0, .int .i64 0, .int .i64 0, .slice none 0 0] 31))
          generalize v3.alloc (.cells #[.int .i64 0, .int .i64 0, .int .i64 0, .slice none 0 0] 31) = Wz at *
          generalize v3.heap.size = gz at *
          clear hz
          obtain ⟨rc0, rc1, rc2, rc3⟩ := bz.d4
          have rf0 := bz.frozen 0
          have rf1 := bz.frozen 1
          have rf2 := bz.frozen 2
          have rf3 := bz.frozen 3
          have rlt := bz.lt
          refine HP.call ?_
          refine CallStep.mk (by rfl) (fun K hK => ?_)
          go_simp
          refine hK.out _ _ (by exact ⟨((((bL.far (p := ⟨gz, 0, none⟩) (by simp <;> omega) (.int .i64 q0)).far (p := ⟨gz, 1, none⟩) (by simp <;> omega) (.int .i64 q1)).far (p := ⟨gz, 2, none⟩) (by simp <;> omega) (.int .i64 q2)).far (p := ⟨gz, 3, none⟩) (by simp <;> omega) (.slice A9 qs.length c9)).d4, ((((bM.far (p := ⟨gz, 0, none⟩) (by simp <;> omega) (.int .i64 q0)).far (p := ⟨gz, 1, none⟩) (by simp <;> omega) (.int .i64 q1)).far (p := ⟨gz, 2, none⟩) (by simp <;> omega) (.int .i64 q2)).far (p := ⟨gz, 3, none⟩) (by simp <;> omega) (.slice A9 qs.length c9)).d4⟩) ?_
          clear hK K
          try simp only [Act.put, List.setIfInBounds_toArray, List.set_cons_zero, List.set_cons_succ]
          clear rc0 rc1 rc2 rc3 rf0 rf1 rf2 rf3
          repeat (first | (refine HP.take (v := ?_) (by rfl) ?_ ?_; rotate_left; (· (intro w hSw; (try dsimp only at hSw); go_simp; try with_reducible rfl)); (try simp only [Act.put, List.setIfInBounds_toArray, List.set_cons_zero, List.set_cons_succ])) | (refine HP.skip (by rfl) ?_; (try simp only [Act.put, List.setIfInBounds_toArray, List.set_cons_zero, List.set_cons_succ])))
          refine HP.done ?_
          have rq := put4_box bz (.int .i64 q0) (.int .i64 q1) (.int .i64 q2) (.slice A9 qs.length c9)
          have hnf := put4_nx (g := gz) hXs (by omega) (.int .i64 q0) (.int .i64 q1) (.int .i64 q2) (.slice A9 qs.length c9)
          have hSf := hS.put4 bz (by decide) (.int .i64 q0) (.int .i64 q1) (.int .i64 q2) (.slice A9 qs.length c9)
          unfold put4 at rq hnf hSf
          generalize ((((Wz.setCell ⟨gz, 0, none⟩ (.int .i64 q0)).setCell ⟨gz, 1, none⟩ (.int .i64 q1)).setCell ⟨gz, 2, none⟩ (.int .i64 q2)).setCell ⟨gz, 3, none⟩ (.slice A9 qs.length c9)) = Wf at *
          exact key gz A9 c9 Wf Ai ci Aj cj ⟨rq, hSf, by omega, hnf⟩
        · have bz := Box.new v2 31 #[.int .i64 0, .int .i64 0, .int .i64 0, .slice none 0 0]
          have hz := (Nx.refl v2).alloc (.cells #[.int .i64 0, .int .i64 0, .int .i64 0, .slice none 0 0] 31)
          have zlt : v2.heap.size < (v2.alloc (.cells #[.int .i64 0, .int .i64 0, .int .i64 0, .slice none 0 0] 31)).heap.size := by simp
          have zhz := hz.size; replace bL := bL.nx hz; replace bM := bM.nx hz; replace hX := hX.trans hz; replace hXs := hXs.trans hz; (try replace bz := bz.nx hz); (try replace hi := hi.nx hz); (try replace hj := hj.nx hz); (try replace hS := hS.nx hz)
          refine CallStep.mk (by rfl) (fun K hK => ?_)
          go_simp
          refine hK.out _ _ (by exact ⟨bL.d4, bM.d4⟩) ?_
          clear hK K
          try simp only [Act.put, List.setIfInBounds_toArray, List.set_cons_zero, List.set_cons_succ]
          change HP _ _ _ _ _ _ (v2.alloc (.cells #[.int .i64 0, .int .i64 0, .int .i64 0, .slice none 0 0] 31))
          generalize v2.alloc (.cells #[.int .i64 0, .int .i64 0, .int .i64 0, .slice none 0 0] 31) = Wz at *
          generalize v2.heap.size = gz at *
          clear hz
          refine HP.call ?_
          refine CallStep.mk (by rfl) (fun K hK => ?_)
          go_simp
          refine (specMergeSegs_c f t m Ai ci l1 f2 t2 m2 Aj cj l2 _ _ hi.row hj.row (Nat.le_refl _) hn1 hn2).mono ?_; intro e v3 hR; obtain ⟨A9, c9, rfl, hS, hv3⟩ := hR.un Hq.out Hc.out; replace hS := hS.low (lo' := w2.heap.size) (by have := hXs.size; omega); have zhv3 := hv3.size; replace bL := bL.nx hv3; replace bM := bM.nx hv3; replace hX := hX.trans hv3; replace hXs := hXs.trans hv3; (try replace bz := bz.nx hv3); (try replace hi := hi.nx hv3); (try replace hj := hj.nx hv3); (try replace hS := hS.nx hv3)
          go_wp2_with fail
          refine hK.out _ _ (by exact ⟨bL.d4, bM.d4⟩) ?_
          clear hK K
          try simp only [Act.put, List.setIfInBounds_toArray, List.set_cons_zero, List.set_cons_succ]
          repeat (first | (refine HP.take (v := ?_) (by rfl) ?_ ?_; rotate_left; (· (intro w hSw; (try dsimp only at hSw); go_simp; try with_reducible rfl)); (try simp only [Act.put, List.setIfInBounds_toArray, List.set_cons_zero, List.set_cons_succ])) | (refine HP.skip (by rfl) ?_; (try simp only [Act.put, List.setIfInBounds_toArray, List.set_cons_zero, List.set_cons_succ])))
          obtain ⟨rc0, rc1, rc2, rc3⟩ := bz.d4
          have rf0 := bz.frozen 0
          have rf1 := bz.frozen 1
          have rf2 := bz.frozen 2
          have rf3 := bz.frozen 3
          have rlt := bz.lt
          refine HP.call ?_
          refine CallStep.mk (by rfl) (fun K hK => ?_)
          go_simp
          refine hK.out _ _ (by exact ⟨((((bL.far (p := ⟨gz, 0, none⟩) (by simp <;> omega) (.int .i64 q0)).far (p := ⟨gz, 1, none⟩) (by simp <;> omega) (.int .i64 q1)).far (p := ⟨gz, 2, none⟩) (by simp <;> omega) (.int .i64 q2)).far (p := ⟨gz, 3, none⟩) (by simp <;> omega) (.slice A9 qs.length c9)).d4, ((((bM.far (p := ⟨gz, 0, none⟩) (by simp <;> omega) (.int .i64 q0)).far (p := ⟨gz, 1, none⟩) (by simp <;> omega) (.int .i64 q1)).far (p := ⟨gz, 2, none⟩) (by simp <;> omega) (.int .i64 q2)).far (p := ⟨gz, 3, none⟩) (by simp <;> omega) (.slice A9 qs.length c9)).d4⟩) ?_
          clear hK K
          try simp only [Act.put, List.setIfInBounds_toArray, List.set_cons_zero, List.set_cons_succ]
          clear rc0 rc1 rc2 rc3 rf0 rf1 rf2 rf3
          repeat (first | (refine HP.take (v := ?_) (by rfl) ?_ ?_; rotate_left; (· (intro w hSw; (try dsimp only at hSw); go_simp; try with_reducible rfl)); (try simp only [Act.put, List.setIfInBounds_toArray, List.set_cons_zero, List.set_cons_succ])) | (refine HP.skip (by rfl) ?_; (try simp only [Act.put, List.setIfInBounds_toArray, List.set_cons_zero, List.set_cons_succ])))
          refine HP.done ?_
          have rq := put4_box bz (.int .i64 q0) (.int .i64 q1) (.int .i64 q2) (.slice A9 qs.length c9)
          have hnf := put4_nx (g := gz) hXs (by omega) (.int .i64 q0) (.int .i64 q1) (.int .i64 q2) (.slice A9 qs.length c9)
          have hSf := hS.put4 bz (by decide) (.int .i64 q0) (.int .i64 q1) (.int .i64 q2) (.slice A9 qs.length c9)
          unfold put4 at rq hnf hSf
          generalize ((((v3.setCell ⟨gz, 0, none⟩ (.int .i64 q0)).setCell ⟨gz, 1, none⟩ (.int .i64 q1)).setCell ⟨gz, 2, none⟩ (.int .i64 q2)).setCell ⟨gz, 3, none⟩ (.slice A9 qs.length c9)) = Wf at *
          exact key gz A9 c9 Wf Ai ci Aj cj ⟨rq, hSf, by omega, hnf⟩
      · have bz := Box.new v1 31 #[.int .i64 0, .int .i64 0, .int .i64 0, .slice none 0 0]
        have hz := (Nx.refl v1).alloc (.cells #[.int .i64 0, .int .i64 0, .int .i64 0, .slice none 0 0] 31)
        have zlt : v1.heap.size < (v1.alloc (.cells #[.int .i64 0, .int .i64 0, .int .i64 0, .slice none 0 0] 31)).heap.size := by simp
        have zhz := hz.size; replace bL := bL.nx hz; replace bM := bM.nx hz; replace hX := hX.trans hz; replace hXs := hXs.trans hz; (try replace bz := bz.nx hz); (try replace hi := hi.nx hz); (try replace hj := hj.nx hz); (try replace hS := hS.nx hz)
        refine CallStep.mk (by rfl) (fun K hK => ?_)
        go_simp
        refine hK.out _ _ (by exact ⟨bL.d4, bM.d4⟩) ?_
        clear hK K
        try simp only [Act.put, List.setIfInBounds_toArray, List.set_cons_zero, List.set_cons_succ]
        change HP _ _ _ _ _ _ (v1.alloc (.cells #[.int .i64 0, .int .i64 0, .int .i64 0, .slice none 0 0] 31))
        generalize v1.alloc (.cells #[.int .i64 0, .int .i64 0, .int .i64 0, .slice none 0 0] 31) = Wz at *
        generalize v1.heap.size = gz at *
        clear hz
        refine HP.call ?_
        refine CallStep.mk (by rfl) (fun K hK => ?_)
        go_simp
        refine (toSeg_c f2 t2 m2 A2 c2 w.heap.size l2 _ (h2.below hX (Nat.le_refl _)) hX.size hn2).mono ?_; rintro e v2 ⟨Aj, cj, rfl, hj, hv2⟩; have zhv2 := hv2.size; replace bL := bL.nx hv2; replace bM := bM.nx hv2; replace hX := hX.trans hv2; replace hXs := hXs.trans hv2; (try replace bz := bz.nx hv2); (try replace hi := hi.nx hv2); (try replace hj := hj.nx hv2); (try replace hS := hS.nx hv2)
        go_wp2_with fail
        refine hK.out _ _ (by exact ⟨bL.d4, bM.d4⟩) ?_
        clear hK K
        try simp only [Act.put, List.setIfInBounds_toArray, List.set_cons_zero, List.set_cons_succ]
        refine HP.call ?_
        refine CallStep.mk (by rfl) (fun K hK => ?_)
        go_simp
        refine (specMergeSegs_c f t m Ai ci l1 f2 t2 m2 Aj cj l2 _ _ hi.row hj.row (Nat.le_refl _) hn1 hn2).mono ?_; intro e v3 hR; obtain ⟨A9, c9, rfl, hS, hv3⟩ := hR.un Hq.out Hc.out; replace hS := hS.low (lo' := w2.heap.size) (by have := hXs.size; omega); have zhv3 := hv3.size; replace bL := bL.nx hv3; replace bM := bM.nx hv3; replace hX := hX.trans hv3; replace hXs := hXs.trans hv3; (try replace bz := bz.nx hv3); (try replace hi := hi.nx hv3); (try replace hj := hj.nx hv3); (try replace hS := hS.nx hv3)
        go_wp2_with fail
        refine hK.out _ _ (by exact ⟨bL.d4, bM.d4⟩) ?_
        clear hK K
        try simp only [Act.put, List.setIfInBounds_toArray, List.set_cons_zero, List.set_cons_succ]
        repeat (first | (refine HP.take (v := ?_) (by rfl) ?_ ?_; rotate_left; (· (intro w hSw; (try dsimp only at hSw); go_simp; try with_reducible rfl)); (try simp only [Act.put, List.setIfInBounds_toArray, List.set_cons_zero, List.set_cons_succ])) | (refine HP.skip (by rfl) ?_; (try simp only [Act.put, List.setIfInBounds_toArray, List.set_cons_zero, List.set_cons_succ])))
        obtain ⟨rc0, rc1, rc2, rc3⟩ := bz.d4
        have rf0 := bz.frozen 0
        have rf1 := bz.frozen 1
        have rf2 := bz.frozen 2
        have rf3 := bz.frozen 3
        have rlt := bz.lt
        refine HP.call ?_
        refine CallStep.mk (by rfl) (fun K hK => ?_)
        go_simp
        refine hK.out _ _ (by exact ⟨((((bL.far (p := ⟨gz, 0, none⟩) (by simp <;> omega) (.int .i64 q0)).far (p := ⟨gz, 1, none⟩) (by simp <;> omega) (.int .i64 q1)).far (p := ⟨gz, 2, none⟩) (by simp <;> omega) (.int .i64 q2)).far (p := ⟨gz, 3, none⟩) (by simp <;> omega) (.slice A9 qs.length c9)).d4, ((((bM.far (p := ⟨gz, 0, none⟩) (by simp <;> omega) (.int .i64 q0)).far (p := ⟨gz, 1, none⟩) (by simp <;> omega) (.int .i64 q1)).far (p := ⟨gz, 2, none⟩) (by simp <;> omega) (.int .i64 q2)).far (p := ⟨gz, 3, none⟩) (by simp <;> omega) (.slice A9 qs.length c9)).d4⟩) ?_
        clear hK K
        try simp only [Act.put, List.setIfInBounds_toArray, List.set_cons_zero, List.set_cons_succ]
        clear rc0 rc1 rc2 rc3 rf0 rf1 rf2 rf3
        repeat (first | (refine HP.take (v := ?_) (by rfl) ?_ ?_; rotate_left; (· (intro w hSw; (try dsimp only at hSw); go_simp; try with_reducible rfl)); (try simp only [Act.put, List.setIfInBounds_toArray, List.set_cons_zero, List.set_cons_succ])) | (refine HP.skip (by rfl) ?_; (try simp only [Act.put, List.setIfInBounds_toArray, List.set_cons_zero, List.set_cons_succ])))
        refine HP.done ?_
        have rq := put4_box bz (.int .i64 q0) (.int .i64 q1) (.int .i64 q2) (.slice A9 qs.length c9)
        have hnf := put4_nx (g := gz) hXs (by omega) (.int .i64 q0) (.int .i64 q1) (.int .i64 q2) (.slice A9 qs.length c9)
        have hSf := hS.put4 bz (by decide) (.int .i64 q0) (.int .i64 q1) (.int .i64 q2) (.slice A9 qs.length c9)
        unfold put4 at rq hnf hSf
        generalize ((((v3.setCell ⟨gz, 0, none⟩ (.int .i64 q0)).setCell ⟨gz, 1, none⟩ (.int .i64 q1)).setCell ⟨gz, 2, none⟩ (.int .i64 q2)).setCell ⟨gz, 3, none⟩ (.slice A9 qs.length c9)) = Wf at *
        exact key gz A9 c9 Wf Ai ci Aj cj ⟨rq, hSf, by omega, hnf⟩
    · have bz := Box.new W0 31 #[.int .i64 0, .int .i64 0, .int .i64 0, .slice none 0 0]
      have hz := (Nx.refl W0).alloc (.cells #[.int .i64 0, .int .i64 0, .int .i64 0, .slice none 0 0] 31)
      have zlt : W0.heap.size < (W0.alloc (.cells #[.int .i64 0, .int .i64 0, .int .i64 0, .slice none 0 0] 31)).heap.size := by simp
      have zhz := hz.size; replace bL := bL.nx hz; replace bM := bM.nx hz; replace hX := hX.trans hz; replace hXs := hXs.trans hz; (try replace bz := bz.nx hz); (try replace hi := hi.nx hz); (try replace hj := hj.nx hz); (try replace hS := hS.nx hz)
      refine CallStep.mk (by rfl) (fun K hK => ?_)
      go_simp
      refine hK.out _ _ (by exact ⟨bL.d4, bM.d4⟩) ?_
      clear hK K
      try simp only [Act.put, List.setIfInBounds_toArray, List.set_cons_zero, List.set_cons_succ]
      change HP _ _ _ _ _ _ (W0.alloc (.cells #[.int .i64 0, .int .i64 0, .int .i64 0, .slice none 0 0] 31))
      generalize W0.alloc (.cells #[.int .i64 0, .int .i64 0, .int .i64 0, .slice none 0 0] 31) = Wz at *
      generalize W0.heap.size = gz at *
      clear hz
      refine HP.call ?_
      refine CallStep.mk (by rfl) (fun K hK => ?_)
      go_simp
      refine (toSeg_c f t m A c w.heap.size l1 _ (h1.below hX (Nat.le_refl _)) hX.size hn1).mono ?_; rintro e v1 ⟨Ai, ci, rfl, hi, hv1⟩; have zhv1 := hv1.size; replace bL := bL.nx hv1; replace bM := bM.nx hv1; replace hX := hX.trans hv1; replace hXs := hXs.trans hv1; (try replace bz := bz.nx hv1); (try replace hi := hi.nx hv1); (try replace hj := hj.nx hv1); (try replace hS := hS.nx hv1)
      go_wp2_with fail
      refine hK.out _ _ (by exact ⟨bL.d4, bM.d4⟩) ?_
      clear hK K
      try simp only [Act.put, List.setIfInBounds_toArray, List.set_cons_zero, List.set_cons_succ]
      refine HP.call ?_
      refine CallStep.mk (by rfl) (fun K hK => ?_)
      go_simp
      refine (toSeg_c f2 t2 m2 A2 c2 w.heap.size l2 _ (h2.below hX (Nat.le_refl _)) hX.size hn2).mono ?_; rintro e v2 ⟨Aj, cj, rfl, hj, hv2⟩; have zhv2 := hv2.size; replace bL := bL.nx hv2; replace bM := bM.nx hv2; replace hX := hX.trans hv2; replace hXs := hXs.trans hv2; (try replace bz := bz.nx hv2); (try replace hi := hi.nx hv2); (try replace hj := hj.nx hv2); (try replace hS := hS.nx hv2)
      go_wp2_with fail
      refine hK.out _ _ (by exact ⟨bL.d4, bM.d4⟩) ?_
      clear hK K
      try simp only [Act.put, List.setIfInBounds_toArray, List.set_cons_zero, List.set_cons_succ]
      refine HP.call ?_
      refine CallStep.mk (by rfl) (fun K hK => ?_)
      go_simp
      refine (specMergeSegs_c f t m Ai ci l1 f2 t2 m2 Aj cj l2 _ _ hi.row hj.row (Nat.le_refl _) hn1 hn2).mono ?_; intro e v3 hR; obtain ⟨A9, c9, rfl, hS, hv3⟩ := hR.un Hq.out Hc.out; replace hS := hS.low (lo' := w2.heap.size) (by have := hXs.size; omega); have zhv3 := hv3.size; replace bL := bL.nx hv3; replace bM := bM.nx hv3; replace hX := hX.trans hv3; replace hXs := hXs.trans hv3; (try replace bz := bz.nx hv3); (try replace hi := hi.nx hv3); (try replace hj := hj.nx hv3); (try replace hS := hS.nx hv3)
      go_wp2_with fail
      refine hK.out _ _ (by exact ⟨bL.d4, bM.d4⟩) ?_
      clear hK K
      try simp only [Act.put, List.setIfInBounds_toArray, List.set_cons_zero, List.set_cons_succ]
      repeat (first | (refine HP.take (v := ?_) (by rfl) ?_ ?_; rotate_left; (· (intro w hSw; (try dsimp only at hSw); go_simp; try with_reducible rfl)); (try simp only [Act.put, List.setIfInBounds_toArray, List.set_cons_zero, List.set_cons_succ])) | (refine HP.skip (by rfl) ?_; (try simp only [Act.put, List.setIfInBounds_toArray, List.set_cons_zero, List.set_cons_succ])))
      obtain ⟨rc0, rc1, rc2, rc3⟩ := bz.d4
      have rf0 := bz.frozen 0
      have rf1 := bz.frozen 1
      have rf2 := bz.frozen 2
      have rf3 := bz.frozen 3
      have rlt := bz.lt
      refine HP.call ?_
      refine CallStep.mk (by rfl) (fun K hK => ?_)
      go_simp
      refine hK.out _ _ (by exact ⟨((((bL.far (p := ⟨gz, 0, none⟩) (by simp <;> omega) (.int .i64 q0)).far (p := ⟨gz, 1, none⟩) (by simp <;> omega) (.int .i64 q1)).far (p := ⟨gz, 2, none⟩) (by simp <;> omega) (.int .i64 q2)).far (p := ⟨gz, 3, none⟩) (by simp <;> omega) (.slice A9 qs.length c9)).d4, ((((bM.far (p := ⟨gz, 0, none⟩) (by simp <;> omega) (.int .i64 q0)).far (p := ⟨gz, 1, none⟩) (by simp <;> omega) (.int .i64 q1)).far (p := ⟨gz, 2, none⟩) (by simp <;> omega) (.int .i64 q2)).far (p := ⟨gz, 3, none⟩) (by simp <;> omega) (.slice A9 qs.length c9)).d4⟩) ?_
      clear hK K
      try simp only [Act.put, List.setIfInBounds_toArray, List.set_cons_zero, List.set_cons_succ]
      clear rc0 rc1 rc2 rc3 rf0 rf1 rf2 rf3
      repeat (first | (refine HP.take (v := ?_) (by rfl) ?_ ?_; rotate_left; (· (intro w hSw; (try dsimp only at hSw); go_simp; try with_reducible rfl)); (try simp only [Act.put, List.setIfInBounds_toArray, List.set_cons_zero, List.set_cons_succ])) | (refine HP.skip (by rfl) ?_; (try simp only [Act.put, List.setIfInBounds_toArray, List.set_cons_zero, List.set_cons_succ])))
      refine HP.done ?_
      have rq := put4_box bz (.int .i64 q0) (.int .i64 q1) (.int .i64 q2) (.slice A9 qs.length c9)
      have hnf := put4_nx (g := gz) hXs (by omega) (.int .i64 q0) (.int .i64 q1) (.int .i64 q2) (.slice A9 qs.length c9)
      have hSf := hS.put4 bz (by decide) (.int .i64 q0) (.int .i64 q1) (.int .i64 q2) (.slice A9 qs.length c9)
      unfold put4 at rq hnf hSf
      generalize ((((v3.setCell ⟨gz, 0, none⟩ (.int .i64 q0)).setCell ⟨gz, 1, none⟩ (.int .i64 q1)).setCell ⟨gz, 2, none⟩ (.int .i64 q2)).setCell ⟨gz, 3, none⟩ (.slice A9 qs.length c9)) = Wf at *
      exact key gz A9 c9 Wf Ai ci Aj cj ⟨rq, hSf, by omega, hnf⟩
  intro gW A5 c5 W5s Ai5 ci5 Aj5 cj5 ⟨bW, hS5, hgW, hxr5⟩
  have zb5 := bW.lt
  have zhxr5 := hxr5.size; replace bL := bL.nx hxr5; replace bM := bM.nx hxr5; replace hX := hX.trans hxr5
  replace hS5 := hS5.sr
  clear hxr5
  clear hd1 hd2
  obtain ⟨lc0, lc1, lc2, lc3⟩ := bL.d4
  go_wp2_with fail
  refine (toSeg_c f t m A c w.heap.size l1 _ (h1.below hX (Nat.le_refl _)) hX.size hn1).mono ?_
  rintro e w4 ⟨A6, c6, rfl, hS6, hx4⟩
  replace hS6 := hS6.sr
  have zhx4 := hx4.size; replace bL := bL.nx hx4; replace bM := bM.nx hx4; replace hS5 := hS5.nx hx4; replace bW := bW.nx hx4; replace hX := hX.trans hx4
  clear lc0 lc1 lc2 lc3
  obtain ⟨lc0, lc1, lc2, lc3⟩ := bM.d4
  have zlM := bM.lt
  go_wp2_with fail
  have bX := Box.new w4 31 #[.int .i64 f, .int .i64 t, .int .i64 m, .slice A6 l1.length c6]
  have hxa := (Nx.refl w4).alloc (.cells #[.int .i64 f, .int .i64 t, .int .i64 m, .slice A6 l1.length c6] 31)
  have zbX : w4.heap.size < (w4.alloc (.cells #[.int .i64 f, .int .i64 t, .int .i64 m, .slice A6 l1.length c6] 31)).heap.size := by simp
  have zhxa := hxa.size; replace bL := bL.nx hxa; replace bM := bM.nx hxa; replace hS5 := hS5.nx hxa; replace bW := bW.nx hxa; replace hS6 := hS6.nx hxa; replace hX := hX.trans hxa
  clear hxa zhxa
  generalize w4.alloc (.cells #[.int .i64 f, .int .i64 t, .int .i64 m, .slice A6 l1.length c6] 31) = W4 at *
  clear lc0 lc1 lc2 lc3
  refine (toSeg_c f2 t2 m2 A2 c2 w.heap.size l2 _ (h2.below hX (Nat.le_refl _)) hX.size hn2).mono ?_
  rintro e w5 ⟨A7, c7, rfl, hS7, hx5⟩
  replace hS7 := hS7.sr
  have zhx5 := hx5.size; replace bL := bL.nx hx5; replace bM := bM.nx hx5; replace hS5 := hS5.nx hx5; replace bW := bW.nx hx5; replace hS6 := hS6.nx hx5; replace bX := bX.nx hx5; replace hX := hX.trans hx5
  obtain ⟨lc0, lc1, lc2, lc3⟩ := bX.d4
  have zlX := bX.lt
  go_wp2_with fail
  have bY := Box.new w5 31 #[.int .i64 f2, .int .i64 t2, .int .i64 m2, .slice A7 l2.length c7]
  have hxa := (Nx.refl w5).alloc (.cells #[.int .i64 f2, .int .i64 t2, .int .i64 m2, .slice A7 l2.length c7] 31)
  have zbY : w5.heap.size < (w5.alloc (.cells #[.int .i64 f2, .int .i64 t2, .int .i64 m2, .slice A7 l2.length c7] 31)).heap.size := by simp
  have zhxa := hxa.size; replace bL := bL.nx hxa; replace bM := bM.nx hxa; replace hS5 := hS5.nx hxa; replace bW := bW.nx hxa; replace hS6 := hS6.nx hxa; replace bX := bX.nx hxa; replace hS7 := hS7.nx hxa; replace hX := hX.trans hxa
  clear hxa zhxa
  generalize w5.alloc (.cells #[.int .i64 f2, .int .i64 t2, .int .i64 m2, .slice A7 l2.length c7] 31) = W5 at *
  clear lc0 lc1 lc2 lc3
  refine (implMergeSegs_c f t m A6 c6 l1 f2 t2 m2 A7 c7 l2 _ _ hS6.sl.row hS7.sl.row (Nat.le_refl _) hn1 hn2).mono ?_
  intro e w6 hR
  obtain ⟨A8, c8, rfl, hS8, hx6⟩ := hR.un Hq.out Hc.out
  replace hS8 := hS8.sr
  have zhx6 := hx6.size; replace bL := bL.nx hx6; replace bM := bM.nx hx6; replace hS5 := hS5.nx hx6; replace bW := bW.nx hx6; replace hS6 := hS6.nx hx6; replace bX := bX.nx hx6; replace hS7 := hS7.nx hx6; replace bY := bY.nx hx6; replace hX := hX.trans hx6
  obtain ⟨lc0, lc1, lc2, lc3⟩ := bW.d4
  have zlW := bW.lt
  go_wp2_with fail
  have bG := Box.new w6 31 #[.int .i64 q0, .int .i64 q1, .int .i64 q2, .slice A8 qs.length c8]
  have hxa := (Nx.refl w6).alloc (.cells #[.int .i64 q0, .int .i64 q1, .int .i64 q2, .slice A8 qs.length c8] 31)
  have zbG : w6.heap.size < (w6.alloc (.cells #[.int .i64 q0, .int .i64 q1, .int .i64 q2, .slice A8 qs.length c8] 31)).heap.size := by simp
  have zhxa := hxa.size; replace bL := bL.nx hxa; replace bM := bM.nx hxa; replace hS5 := hS5.nx hxa; replace bW := bW.nx hxa; replace hS6 := hS6.nx hxa; replace bX := bX.nx hxa; replace hS7 := hS7.nx hxa; replace bY := bY.nx hxa; replace hS8 := hS8.nx hxa; replace hX := hX.trans hxa
  clear hxa zhxa
  generalize w6.alloc (.cells #[.int .i64 q0, .int .i64 q1, .int .i64 q2, .slice A8 qs.length c8] 31) = W6 at *
  clear lc0 lc1 lc2 lc3
  refine (eqSeg_c q0 q1 q2 A8 A5 c8 c5 _ qs _ hS8.sl.row hS5.sl.row (Nat.le_refl _) hy).mono ?_
  rintro e w7 ⟨rfl, hx7⟩
  have zhx7 := hx7.size; replace bL := bL.nx hx7; replace bM := bM.nx hx7; replace hS5 := hS5.nx hx7; replace bW := bW.nx hx7; replace hS6 := hS6.nx hx7; replace bX := bX.nx hx7; replace hS7 := hS7.nx hx7; replace bY := bY.nx hx7; replace hS8 := hS8.nx hx7; replace bG := bG.nx hx7; replace hX := hX.trans hx7
  clear zlM zlX zlW
  replace hX := hX.drew
  have zd1 : w7.heap.size ≤ w7.drew.heap.size := Nat.le_refl _
  replace bL : Box w7.drew w.heap.size 49 #[.int .i64 f, .int .i64 t, .int .i64 m, .slice A l1.length c] := bL
  replace bM : Box w7.drew (w.heap.size + 1) 49 #[.int .i64 f2, .int .i64 t2, .int .i64 m2, .slice A2 l2.length c2] := bM
  replace bW : Box w7.drew gW 31 #[.int .i64 q0, .int .i64 q1, .int .i64 q2, .slice A5 qs.length c5] := bW
  replace bX : Box w7.drew w4.heap.size 31 #[.int .i64 f, .int .i64 t, .int .i64 m, .slice A6 l1.length c6] := bX
  replace bY : Box w7.drew w5.heap.size 31 #[.int .i64 f2, .int .i64 t2, .int .i64 m2, .slice A7 l2.length c7] := bY
  replace bG : Box w7.drew w6.heap.size 31 #[.int .i64 q0, .int .i64 q1, .int .i64 q2, .slice A8 qs.length c8] := bG
  replace hS5 : Sr w7.drew w2.heap.size W5s.heap.size A5 45 (qs.length * 3) (chAt qs) := hS5
  replace hS6 : Sr w7.drew W5s.heap.size w4.heap.size A6 45 (l1.length * 3) (chAt l1) := hS6
  replace hS7 : Sr w7.drew W4.heap.size w5.heap.size A7 45 (l2.length * 3) (chAt l2) := hS7
  replace hS8 : Sr w7.drew W5.heap.size w6.heap.size A8 45 (qs.length * 3) (chAt qs) := hS8
  go_wp2_with fail
  refine wp_region_lex [false, false, true, true, false] (fun w' => (w'.cell? ⟨w4.heap.size, 0, none⟩ = some (.int .i64 f) ∧ w'.cell? ⟨w4.heap.size, 1, none⟩ = some (.int .i64 t) ∧ w'.cell? ⟨w4.heap.size, 2, none⟩ = some (.int .i64 m) ∧ w'.cell? ⟨w4.heap.size, 3, none⟩ = some (.slice A6 l1.length c6)) ∧ (w'.cell? ⟨w.heap.size, 0, none⟩ = some (.int .i64 f) ∧ w'.cell? ⟨w.heap.size, 1, none⟩ = some (.int .i64 t) ∧ w'.cell? ⟨w.heap.size, 2, none⟩ = some (.int .i64 m) ∧ w'.cell? ⟨w.heap.size, 3, none⟩ = some (.slice A l1.length c))) (by kernel_rfl) (by kernel_rfl) rfl (by kernel_rfl) (fun _ _ d _ _ h => by cases d <;> exact h) (by exact ⟨bX.d4, bL.d4⟩) ?_
  repeat (first | (refine HL.take (v := ?_) (by rfl) ?_ ?_; rotate_left; (· (intro w hSw; (try dsimp only at hSw); go_simp; try with_reducible rfl)); (try simp only [Act.put, List.setIfInBounds_toArray, List.set_cons_zero, List.set_cons_succ])) | (refine HL.skip (by rfl) ?_; (try simp only [Act.put, List.setIfInBounds_toArray, List.set_cons_zero, List.set_cons_succ])))
  refine HL.call (by rfl) (fun K hK => ?_)
  go_simp
  refine (toSeg_c f t m A c w.heap.size l1 _ (h1.below hX (Nat.le_refl _)) hX.size hn1).mono ?_; rintro e y1 ⟨Ay1, cy1, rfl, hSy1, hy1⟩; have zhy1 := hy1.size; replace bL := bL.nx hy1; replace bM := bM.nx hy1; replace hS5 := hS5.nx hy1; replace bW := bW.nx hy1; replace hS6 := hS6.nx hy1; replace bX := bX.nx hy1; replace hS7 := hS7.nx hy1; replace bY := bY.nx hy1; replace hS8 := hS8.nx hy1; replace bG := bG.nx hy1; replace hX := hX.trans hy1
  go_wp2_with fail
  refine hK.out _ _ (by exact ⟨bX.d4, bL.d4⟩) ?_
  clear hK K
  try simp only [Act.put, List.setIfInBounds_toArray, List.set_cons_zero, List.set_cons_succ]
  refine HL.call (by rfl) (fun K hK => ?_)
  go_simp
  refine (eqSeg_c f t m A6 Ay1 c6 cy1 _ l1 _ hS6.sl.row hSy1.row (Nat.le_refl _) hn1).mono ?_; rintro e x1 ⟨rfl, hx1q⟩; have zhx1q := hx1q.size; replace bL := bL.nx hx1q; replace bM := bM.nx hx1q; replace hS5 := hS5.nx hx1q; replace bW := bW.nx hx1q; replace hS6 := hS6.nx hx1q; replace bX := bX.nx hx1q; replace hS7 := hS7.nx hx1q; replace bY := bY.nx hx1q; replace hS8 := hS8.nx hx1q; replace bG := bG.nx hx1q; replace hX := hX.trans hx1q
  go_wp2_with fail
  refine hK.out _ _ (by exact ⟨bX.d4, bL.d4⟩) ?_
  clear hK K
  try simp only [Act.put, List.setIfInBounds_toArray, List.set_cons_zero, List.set_cons_succ]
  repeat (first | (refine HL.take (v := ?_) (by rfl) ?_ ?_; rotate_left; (· (intro w hSw; (try dsimp only at hSw); go_simp; try with_reducible rfl)); (try simp only [Act.put, List.setIfInBounds_toArray, List.set_cons_zero, List.set_cons_succ])) | (refine HL.skip (by rfl) ?_; (try simp only [Act.put, List.setIfInBounds_toArray, List.set_cons_zero, List.set_cons_succ])))
  refine HL.done ?_
  clear hSy1
  replace hX := hX.drew
  have zd2 : x1.heap.size ≤ x1.drew.heap.size := Nat.le_refl _
  replace bL : Box x1.drew w.heap.size 49 #[.int .i64 f, .int .i64 t, .int .i64 m, .slice A l1.length c] := bL
  replace bM : Box x1.drew (w.heap.size + 1) 49 #[.int .i64 f2, .int .i64 t2, .int .i64 m2, .slice A2 l2.length c2] := bM
  replace bW : Box x1.drew gW 31 #[.int .i64 q0, .int .i64 q1, .int .i64 q2, .slice A5 qs.length c5] := bW
  replace bX : Box x1.drew w4.heap.size 31 #[.int .i64 f, .int .i64 t, .int .i64 m, .slice A6 l1.length c6] := bX
  replace bY : Box x1.drew w5.heap.size 31 #[.int .i64 f2, .int .i64 t2, .int .i64 m2, .slice A7 l2.length c7] := bY
  replace bG : Box x1.drew w6.heap.size 31 #[.int .i64 q0, .int .i64 q1, .int .i64 q2, .slice A8 qs.length c8] := bG
  replace hS5 : Sr x1.drew w2.heap.size W5s.heap.size A5 45 (qs.length * 3) (chAt qs) := hS5
  replace hS6 : Sr x1.drew W5s.heap.size w4.heap.size A6 45 (l1.length * 3) (chAt l1) := hS6
  replace hS7 : Sr x1.drew W4.heap.size w5.heap.size A7 45 (l2.length * 3) (chAt l2) := hS7
  replace hS8 : Sr x1.drew W5.heap.size w6.heap.size A8 45 (qs.length * 3) (chAt qs) := hS8
  go_wp2_with fail
  refine wp_region_lex [false, false, true, true, false] (fun w' => (w'.cell? ⟨w5.heap.size, 0, none⟩ = some (.int .i64 f2) ∧ w'.cell? ⟨w5.heap.size, 1, none⟩ = some (.int .i64 t2) ∧ w'.cell? ⟨w5.heap.size, 2, none⟩ = some (.int .i64 m2) ∧ w'.cell? ⟨w5.heap.size, 3, none⟩ = some (.slice A7 l2.length c7)) ∧ (w'.cell? ⟨(w.heap.size + 1), 0, none⟩ = some (.int .i64 f2) ∧ w'.cell? ⟨(w.heap.size + 1), 1, none⟩ = some (.int .i64 t2) ∧ w'.cell? ⟨(w.heap.size + 1), 2, none⟩ = some (.int .i64 m2) ∧ w'.cell? ⟨(w.heap.size + 1), 3, none⟩ = some (.slice A2 l2.length c2))) (by kernel_rfl) (by kernel_rfl) rfl (by kernel_rfl) (fun _ _ d _ _ h => by cases d <;> exact h) (by exact ⟨bY.d4, bM.d4⟩) ?_
  repeat (first | (refine HL.take (v := ?_) (by rfl) ?_ ?_; rotate_left; (· (intro w hSw; (try dsimp only at hSw); go_simp; try with_reducible rfl)); (try simp only [Act.put, List.setIfInBounds_toArray, List.set_cons_zero, List.set_cons_succ])) | (refine HL.skip (by rfl) ?_; (try simp only [Act.put, List.setIfInBounds_toArray, List.set_cons_zero, List.set_cons_succ])))
  refine HL.call (by rfl) (fun K hK => ?_)
  go_simp
  refine (toSeg_c f2 t2 m2 A2 c2 w.heap.size l2 _ (h2.below hX (Nat.le_refl _)) hX.size hn2).mono ?_; rintro e y2 ⟨Ay2, cy2, rfl, hSy2, hy2⟩; have zhy2 := hy2.size; replace bL := bL.nx hy2; replace bM := bM.nx hy2; replace hS5 := hS5.nx hy2; replace bW := bW.nx hy2; replace hS6 := hS6.nx hy2; replace bX := bX.nx hy2; replace hS7 := hS7.nx hy2; replace bY := bY.nx hy2; replace hS8 := hS8.nx hy2; replace bG := bG.nx hy2; replace hX := hX.trans hy2
  go_wp2_with fail
  refine hK.out _ _ (by exact ⟨bY.d4, bM.d4⟩) ?_
  clear hK K
  try simp only [Act.put, List.setIfInBounds_toArray, List.set_cons_zero, List.set_cons_succ]
  refine HL.call (by rfl) (fun K hK => ?_)
  go_simp
  refine (eqSeg_c f2 t2 m2 A7 Ay2 c7 cy2 _ l2 _ hS7.sl.row hSy2.row (Nat.le_refl _) hn2).mono ?_; rintro e x2 ⟨rfl, hx2q⟩; have zhx2q := hx2q.size; replace bL := bL.nx hx2q; replace bM := bM.nx hx2q; replace hS5 := hS5.nx hx2q; replace bW := bW.nx hx2q; replace hS6 := hS6.nx hx2q; replace bX := bX.nx hx2q; replace hS7 := hS7.nx hx2q; replace bY := bY.nx hx2q; replace hS8 := hS8.nx hx2q; replace bG := bG.nx hx2q; replace hX := hX.trans hx2q
  go_wp2_with fail
  refine hK.out _ _ (by exact ⟨bY.d4, bM.d4⟩) ?_
  clear hK K
  try simp only [Act.put, List.setIfInBounds_toArray, List.set_cons_zero, List.set_cons_succ]
  repeat (first | (refine HL.take (v := ?_) (by rfl) ?_ ?_; rotate_left; (· (intro w hSw; (try dsimp only at hSw); go_simp; try with_reducible rfl)); (try simp only [Act.put, List.setIfInBounds_toArray, List.set_cons_zero, List.set_cons_succ])) | (refine HL.skip (by rfl) ?_; (try simp only [Act.put, List.setIfInBounds_toArray, List.set_cons_zero, List.set_cons_succ])))
  refine HL.done ?_
  clear hSy2
  obtain ⟨lc0, lc1, lc2, lc3⟩ := bX.d4
  go_wp2_with fail
  refine (markSeg_c f t m A6 l1.length c6 _ _ _ _ hS6 (by omega) hn1).mono ?_
  rintro e wc ⟨rfl, hS6b, hr1⟩
  have zhr1 := hr1.size; replace bL := bL.rg hr1 (by omega); replace bM := bM.rg hr1 (by omega); replace hS5 := hS5.rg hr1 (by omega); replace bW := bW.rg hr1 (by omega); replace bX := bX.rg hr1 (by omega); replace hS7 := hS7.rg hr1 (by omega); replace bY := bY.rg hr1 (by omega); replace hS8 := hS8.rg hr1 (by omega); replace bG := bG.rg hr1 (by omega); replace hX := Rg.nx_of hX hr1 (by omega)
  clear hS6 hS6b
  clear lc0 lc1 lc2 lc3
  obtain ⟨k1, Hk1⟩ : ∃ q, Hid (1 + l1.length * 3 = q) := ⟨_, rfl⟩
  have hk1 : k1 ≤ 3145729 := by have := Hk1.out; omega
  rw [Hk1.out]
  obtain ⟨lc0, lc1, lc2, lc3⟩ := bY.d4
  go_wp2_with fail
  refine (markSegL_c f2 t2 m2 A7 l2.length c7 k1 _ _ _ _ hS7 (by omega) hn2 hk1).mono ?_
  rintro e wd ⟨rfl, hr2⟩
  have zhr2 := hr2.size; replace bL := bL.rg hr2 (by omega); replace bM := bM.rg hr2 (by omega); replace hS5 := hS5.rg hr2 (by omega); replace bW := bW.rg hr2 (by omega); replace bX := bX.rg hr2 (by omega); replace bY := bY.rg hr2 (by omega); replace hS8 := hS8.rg hr2 (by omega); replace bG := bG.rg hr2 (by omega); replace hX := Rg.nx_of hX hr2 (by omega)
  clear hS7
  clear lc0 lc1 lc2 lc3
  obtain ⟨k2, Hk2⟩ : ∃ q, Hid (k1 + l2.length * 3 = q) := ⟨_, rfl⟩
  rw [Hk2.out]
  have hd4 : decide ((k2 : Int) < 0) = false := by simp
  obtain ⟨lc0, lc1, lc2, lc3⟩ := bW.d4
  obtain ⟨nc0, nc1, nc2, nc3⟩ := bG.d4
  go_wp2_with fail
  refine (eqSeg_c q0 q1 q2 A8 A5 c8 c5 _ qs _ hS8.sl.row hS5.sl.row (Nat.le_refl _) hy).mono ?_
  rintro e we ⟨rfl, hxe⟩
  have zhxe := hxe.size; replace bL := bL.nx hxe; replace bM := bM.nx hxe; replace hS5 := hS5.nx hxe; replace bW := bW.nx hxe; replace bX := bX.nx hxe; replace bY := bY.nx hxe; replace hS8 := hS8.nx hxe; replace bG := bG.nx hxe; replace hX := hX.trans hxe
  clear lc0 lc1 lc2 lc3 nc0 nc1 nc2 nc3
  obtain ⟨nc0, nc1, nc2, nc3⟩ := bG.d4
  go_wp2_with fail
  refine (markSeg_c q0 q1 q2 A8 qs.length c8 _ _ _ _ hS8 (by omega) hy).mono ?_
  rintro e wf ⟨rfl, hS8b, hr3⟩
  have zhr3 := hr3.size; replace bL := bL.rg hr3 (by omega); replace bM := bM.rg hr3 (by omega); replace hS5 := hS5.rg hr3 (by omega); replace bW := bW.rg hr3 (by omega); replace bX := bX.rg hr3 (by omega); replace bY := bY.rg hr3 (by omega); replace bG := bG.rg hr3 (by omega); replace hX := Rg.nx_of hX hr3 (by omega)
  clear hS8
  clear nc0 nc1 nc2 nc3
  obtain ⟨k3, Hk3⟩ : ∃ q, Hid (1 + qs.length * 3 = q) := ⟨_, rfl⟩
  have hd3 : decide ((k3 : Int) < 0) = false := by simp
  rw [Hk3.out]
  obtain ⟨nc0, nc1, nc2, nc3⟩ := bG.d4
  go_wp2_with fail
  refine (heldSeg_c q0 q1 q2 A8 qs.length c8 _ _ hS8b.sl.row (Nat.le_refl _) hy).mono ?_
  rintro e wh ⟨rfl, hxh⟩
  rw [Hk3.out]
  have zhxh := hxh.size; replace bL := bL.nx hxh; replace bM := bM.nx hxh; replace hS5 := hS5.nx hxh; replace bW := bW.nx hxh; replace bX := bX.nx hxh; replace bY := bY.nx hxh; replace bG := bG.nx hxh; replace hS8b := hS8b.nx hxh; replace hX := hX.trans hxh
  clear nc0 nc1 nc2 nc3
  go_wp2_with fail
  refine merge8 (F := (fun gq Aq cq Wq => Box Wq gq 31 #[.int .i64 q0, .int .i64 q1, .int .i64 q2, .slice Aq qs.length cq] ∧ Sl Wq wh.heap.size Aq 45 (qs.length * 3) (chAt qs) ∧ wh.heap.size ≤ gq ∧ Nx wh Wq)) (G := ?_) (fun key => ?_) ?_
  rotate_left
  · have hXs : Nx wh wh.drew := (Nx.refl wh).drew
    have hXk := hX
    have hX := hXk.drew
    clear hXk
    have zd : wh.heap.size ≤ wh.drew.heap.size := Nat.le_refl _
    have bLk := bL
    have bL : Box wh.drew w.heap.size 49 #[.int .i64 f, .int .i64 t, .int .i64 m, .slice A l1.length c] := bLk
    clear bLk
    have bMk := bM
    have bM : Box wh.drew (w.heap.size + 1) 49 #[.int .i64 f2, .int .i64 t2, .int .i64 m2, .slice A2 l2.length c2] := bMk
    clear bMk
    have zbl := bM.lt
    refine wp_region_plan (.t 0 (.t 2 (.b 1 (.b 3 (.b 4 (.t 5 (.t 6 (.t 7 (.c 8 (.c 9 (.t 10 .e)))))) 8 (.c 4 (.t 5 (.t 6 (.t 7 (.c 9 (.t 10 .e))))))) 8 (.c 3 (.c 4 (.t 5 (.t 6 (.t 7 (.c 9 (.t 10 .e)))))))) 8 (.c 1 (.c 3 (.c 4 (.t 5 (.t 6 (.t 7 (.c 9 (.t 10 .e))))))))))) (fun w' => (w'.cell? ⟨w.heap.size, 0, none⟩ = some (.int .i64 f) ∧ w'.cell? ⟨w.heap.size, 1, none⟩ = some (.int .i64 t) ∧ w'.cell? ⟨w.heap.size, 2, none⟩ = some (.int .i64 m) ∧ w'.cell? ⟨w.heap.size, 3, none⟩ = some (.slice A l1.length c)) ∧ (w'.cell? ⟨(w.heap.size + 1), 0, none⟩ = some (.int .i64 f2) ∧ w'.cell? ⟨(w.heap.size + 1), 1, none⟩ = some (.int .i64 t2) ∧ w'.cell? ⟨(w.heap.size + 1), 2, none⟩ = some (.int .i64 m2) ∧ w'.cell? ⟨(w.heap.size + 1), 3, none⟩ = some (.slice A2 l2.length c2))) (by kernel_rfl) (by kernel_rfl) rfl (by kernel_rfl) (fun _ _ d _ _ h => by cases d <;> exact h) (by exact ⟨bL.d4, bM.d4⟩) ?_
    simp only [psOf, List.getD_cons_zero, List.getD_cons_succ]
    generalize wh.drew = W0 at *
    repeat (first | (refine HP.take (v := ?_) (by rfl) ?_ ?_; rotate_left; (· (intro w hSw; (try dsimp only at hSw); go_simp; try with_reducible rfl)); (try simp only [Act.put, List.setIfInBounds_toArray, List.set_cons_zero, List.set_cons_succ])) | (refine HP.skip (by rfl) ?_; (try simp only [Act.put, List.setIfInBounds_toArray, List.set_cons_zero, List.set_cons_succ])))
    refine HP.both ?_ ?_
    · refine CallStep.mk (by rfl) (fun K hK => ?_)
      go_simp
      refine (toSeg_c f t m A c w.heap.size l1 _ (h1.below hX (Nat.le_refl _)) hX.size hn1).mono ?_; rintro e v1 ⟨Ai, ci, rfl, hi, hv1⟩; have zhv1 := hv1.size; replace bL := bL.nx hv1; replace bM := bM.nx hv1; replace hX := hX.trans hv1; replace hXs := hXs.trans hv1; (try replace bz := bz.nx hv1); (try replace hi := hi.nx hv1); (try replace hj := hj.nx hv1); (try replace hS := hS.nx hv1)
      go_wp2_with fail
      refine hK.out _ _ (by exact ⟨bL.d4, bM.d4⟩) ?_
      clear hK K
      try simp only [Act.put, List.setIfInBounds_toArray, List.set_cons_zero, List.set_cons_succ]
      refine HP.both ?_ ?_
      · refine CallStep.mk (by rfl) (fun K hK => ?_)
        go_simp
        refine (toSeg_c f2 t2 m2 A2 c2 w.heap.size l2 _ (h2.below hX (Nat.le_refl _)) hX.size hn2).mono ?_; rintro e v2 ⟨Aj, cj, rfl, hj, hv2⟩; have zhv2 := hv2.size; replace bL := bL.nx hv2; replace bM := bM.nx hv2; replace hX := hX.trans hv2; replace hXs := hXs.trans hv2; (try replace bz := bz.nx hv2); (try replace hi := hi.nx hv2); (try replace hj := hj.nx hv2); (try replace hS := hS.nx hv2)
        go_wp2_with fail
        refine hK.out _ _ (by exact ⟨bL.d4, bM.d4⟩) ?_
        clear hK K
        try simp only [Act.put, List.setIfInBounds_toArray, List.set_cons_zero, List.set_cons_succ]
        refine HP.both ?_ ?_
        · refine CallStep.mk (by rfl) (fun K hK => ?_)
          go_simp
          refine (implMergeSegs_c f t m Ai ci l1 f2 t2 m2 Aj cj l2 _ _ hi.row hj.row (Nat.le_refl _) hn1 hn2).mono ?_; intro e v3 hR; obtain ⟨A9, c9, rfl, hS, hv3⟩ := hR.un Hq.out Hc.out; replace hS := hS.low (lo' := wh.heap.size) (by have := hXs.size; omega); have zhv3 := hv3.size; replace bL := bL.nx hv3; replace bM := bM.nx hv3; replace hX := hX.trans hv3; replace hXs := hXs.trans hv3; (try replace bz := bz.nx hv3); (try replace hi := hi.nx hv3); (try replace hj := hj.nx hv3); (try replace hS := hS.nx hv3)
          go_wp2_with fail
          refine hK.out _ _ (by exact ⟨bL.d4, bM.d4⟩) ?_
          clear hK K
          try simp only [Act.put, List.setIfInBounds_toArray, List.set_cons_zero, List.set_cons_succ]
          repeat (first | (refine HP.take (v := ?_) (by rfl) ?_ ?_; rotate_left; (· (intro w hSw; (try dsimp only at hSw); go_simp; try with_reducible rfl)); (try simp only [Act.put, List.setIfInBounds_toArray, List.set_cons_zero, List.set_cons_succ])) | (refine HP.skip (by rfl) ?_; (try simp only [Act.put, List.setIfInBounds_toArray, List.set_cons_zero, List.set_cons_succ])))
          refine HP.call ?_
          have bz := Box.new v3 31 #[.int .i64 0, .int .i64 0, .int .i64 0, .slice none 0 0]
          have hz := (Nx.refl v3).alloc (.cells #[.int .i64 0, .int .i64 0, .int .i64 0, .slice none 0 0] 31)
          have zlt : v3.heap.size < (v3.alloc (.cells #[.int .i64 0, .int .i64 0, .int .i64 0, .slice none 0 0] 31)).heap.size := by simp
          have zhz := hz.size; replace bL := bL.nx hz; replace bM := bM.nx hz; replace hX := hX.trans hz; replace hXs := hXs.trans hz; (try replace bz := bz.nx hz); (try replace hi := hi.nx hz); (try replace hj := hj.nx hz); (try replace hS := hS.nx hz)
          refine CallStep.mk (by rfl) (fun K hK => ?_)
          go_simp
          refine hK.out _ _ (by exact ⟨bL.d4, bM.d4⟩) ?_
          clear hK K
          try simp only [Act.put, List.setIfInBounds_toArray, List.set_cons_zero, List.set_cons_succ]
          change HP _ _ _ _ _ _ (v3.alloc (.cells #[.int .i64 0, .int .i64 0, .int .i64 0, .slice none 0 0] 31))
          generalize v3.alloc (.cells #[.int .i64 0, .int .i64 0, .int .i64 0, .slice none 0 0] 31) = Wz at *
          generalize v3.heap.size = gz at *
          clear hz
          obtain ⟨rc0, rc1, rc2, rc3⟩ := bz.d4
          have rf0 := bz.frozen 0
          have rf1 := bz.frozen 1
          have rf2 := bz.frozen 2
          have rf3 := bz.frozen 3
          have rlt := bz.lt
          refine HP.call ?_
          refine CallStep.mk (by rfl) (fun K hK => ?_)
          go_simp
          refine hK.out _ _ (by exact ⟨((((bL.far (p := ⟨gz, 0, none⟩) (by simp <;> omega) (.int .i64 q0)).far (p := ⟨gz, 1, none⟩) (by simp <;> omega) (.int .i64 q1)).far (p := ⟨gz, 2, none⟩) (by simp <;> omega) (.int .i64 q2)).far (p := ⟨gz, 3, none⟩) (by simp <;> omega) (.slice A9 qs.length c9)).d4, ((((bM.far (p := ⟨gz, 0, none⟩) (by simp <;> omega) (.int .i64 q0)).far (p := ⟨gz, 1, none⟩) (by simp <;> omega) (.int .i64 q1)).far (p := ⟨gz, 2, none⟩) (by simp <;> omega) (.int .i64 q2)).far (p := ⟨gz, 3, none⟩) (by simp <;> omega) (.slice A9 qs.length c9)).d4⟩) ?_
          clear hK K
          try simp only [Act.put, List.setIfInBounds_toArray, List.set_cons_zero, List.set_cons_succ]
          clear rc0 rc1 rc2 rc3 rf0 rf1 rf2 rf3
          repeat (first | (refine HP.take (v := ?_) (by rfl) ?_ ?_; rotate_left; (· (intro w hSw; (try dsimp only at hSw); go_simp; try with_reducible rfl)); (try simp only [Act.put, List.setIfInBounds_toArray, List.set_cons_zero, List.set_cons_succ])) | (refine HP.skip (by rfl) ?_; (try simp only [Act.put, List.setIfInBounds_toArray, List.set_cons_zero, List.set_cons_succ])))
          refine HP.done ?_
          have rq := put4_box bz (.int .i64 q0) (.int .i64 q1) (.int .i64 q2) (.slice A9 qs.length c9)
          have hnf := put4_nx (g := gz) hXs (by omega) (.int .i64 q0) (.int .i64 q1) (.int .i64 q2) (.slice A9 qs.length c9)
          have hSf := hS.put4 bz (by decide) (.int .i64 q0) (.int .i64 q1) (.int .i64 q2) (.slice A9 qs.length c9)
          unfold put4 at rq hnf hSf
          generalize ((((Wz.setCell ⟨gz, 0, none⟩ (.int .i64 q0)).setCell ⟨gz, 1, none⟩ (.int .i64 q1)).setCell ⟨gz, 2, none⟩ (.int .i64 q2)).setCell ⟨gz, 3, none⟩ (.slice A9 qs.length c9)) = Wf at *
          exact key gz A9 c9 Wf Ai ci Aj cj ⟨rq, hSf, by omega, hnf⟩
        · have bz := Box.new v2 31 #[.int .i64 0, .int .i64 0, .int .i64 0, .slice none 0 0]
          have hz := (Nx.refl v2).alloc (.cells #[.int .i64 0, .int .i64 0, .int .i64 0, .slice none 0 0] 31)
          have zlt : v2.heap.size < (v2.alloc (.cells #[.int .i64 0, .int .i64 0, .int .i64 0, .slice none 0 0] 31)).heap.size := by simp
          have zhz := hz.size; replace bL := bL.nx hz; replace bM := bM.nx hz; replace hX := hX.trans hz; replace hXs := hXs.trans hz; (try replace bz := bz.nx hz); (try replace hi := hi.nx hz); (try replace hj := hj.nx hz); (try replace hS := hS.nx hz)
          refine CallStep.mk (by rfl) (fun K hK => ?_)
          go_simp
          refine hK.out _ _ (by exact ⟨bL.d4, bM.d4⟩) ?_
          clear hK K
          try simp only [Act.put, List.setIfInBounds_toArray, List.set_cons_zero, List.set_cons_succ]
          change HP _ _ _ _ _ _ (v2.alloc (.cells #[.int .i64 0, .int .i64 0, .int .i64 0, .slice none 0 0] 31))
          generalize v2.alloc (.cells #[.int .i64 0, .int .i64 0, .int .i64 0, .slice none 0 0] 31) = Wz at *
          generalize v2.heap.size = gz at *
          clear hz
          refine HP.call ?_
          refine CallStep.mk (by rfl) (fun K hK => ?_)
          go_simp
          refine (implMergeSegs_c f t m Ai ci l1 f2 t2 m2 Aj cj l2 _ _ hi.row hj.row (Nat.le_refl _) hn1 hn2).mono ?_; intro e v3 hR; obtain ⟨A9, c9, rfl, hS, hv3⟩ := hR.un Hq.out Hc.out; replace hS := hS.low (lo' := wh.heap.size) (by have := hXs.size; omega); have zhv3 := hv3.size; replace bL := bL.nx hv3; replace bM := bM.nx hv3; replace hX := hX.trans hv3; replace hXs := hXs.trans hv3; (try replace bz := bz.nx hv3); (try replace hi := hi.nx hv3); (try replace hj := hj.nx hv3); (try replace hS := hS.nx hv3)
          go_wp2_with fail
          refine hK.out _ _ (by exact ⟨bL.d4, bM.d4⟩) ?_
          clear hK K
          try simp only [Act.put, List.setIfInBounds_toArray, List.set_cons_zero, List.set_cons_succ]
          repeat (first | (refine HP.take (v := ?_) (by rfl) ?_ ?_; rotate_left; (· (intro w hSw; (try dsimp only at hSw); go_simp; try with_reducible rfl)); (try simp only [Act.put, List.setIfInBounds_toArray, List.set_cons_zero, List.set_cons_succ])) | (refine HP.skip (by rfl) ?_; (try simp only [Act.put, List.setIfInBounds_toArray, List.set_cons_zero, List.set_cons_succ])))
          obtain ⟨rc0, rc1, rc2, rc3⟩ := bz.d4
          have rf0 := bz.frozen 0
          have rf1 := bz.frozen 1
          have rf2 := bz.frozen 2
          have rf3 := bz.frozen 3
          have rlt := bz.lt
          refine HP.call ?_
          refine CallStep.mk (by rfl) (fun K hK => ?_)
          go_simp
          refine hK.out _ _ (by exact ⟨((((bL.far (p := ⟨gz, 0, none⟩) (by simp <;> omega) (.int .i64 q0)).far (p := ⟨gz, 1, none⟩) (by simp <;> omega) (.int .i64 q1)).far (p := ⟨gz, 2, none⟩) (by simp <;> omega) (.int .i64 q2)).far (p := ⟨gz, 3, none⟩) (by simp <;> omega) (.slice A9 qs.length c9)).d4, ((((bM.far (p := ⟨gz, 0, none⟩) (by simp <;> omega) (.int .i64 q0)).far (p := ⟨gz, 1, none⟩) (by simp <;> omega) (.int .i64 q1)).far (p := ⟨gz, 2, none⟩) (by simp <;> omega) (.int .i64 q2)).far (p := ⟨gz, 3, none⟩) (by simp <;> omega) (.slice A9 qs.length c9)).d4⟩) ?_
          clear hK K
          try simp only [Act.put, List.setIfInBounds_toArray, List.set_cons_zero, List.set_cons_succ]
          clear rc0 rc1 rc2 rc3 rf0 rf1 rf2 rf3
          repeat (first | (refine HP.take (v := ?_) (by rfl) ?_ ?_; rotate_left; (· (intro w hSw; (try dsimp only at hSw); go_simp; try with_reducible rfl)); (try simp only [Act.put, List.setIfInBounds_toArray, List.set_cons_zero, List.set_cons_succ])) | (refine HP.skip (by rfl) ?_; (try simp only [Act.put, List.setIfInBounds_toArray, List.set_cons_zero, List.set_cons_succ])))
          refine HP.done ?_
          have rq := put4_box bz (.int .i64 q0) (.int .i64 q1) (.int .i64 q2) (.slice A9 qs.length c9)
          have hnf := put4_nx (g := gz) hXs (by omega) (.int .i64 q0) (.int .i64 q1) (.int .i64 q2) (.slice A9 qs.length c9)
          have hSf := hS.put4 bz (by decide) (.int .i64 q0) (.int .i64 q1) (.int .i64 q2) (.slice A9 qs.length c9)
          unfold put4 at rq hnf hSf
          generalize ((((v3.setCell ⟨gz, 0, none⟩ (.int .i64 q0)).setCell ⟨gz, 1, none⟩ (.int .i64 q1)).setCell ⟨gz, 2, none⟩ (.int .i64 q2)).setCell ⟨gz, 3, none⟩ (.slice A9 qs.length c9)) = Wf at *
          exact key gz A9 c9 Wf Ai ci Aj cj ⟨rq, hSf, by omega, hnf⟩
      · have bz := Box.new v1 31 #[.int .i64 0, .int .i64 0, .int .i64 0, .slice none 0 0]
        have hz := (Nx.refl v1).alloc (.cells #[.int .i64 0, .int .i64 0, .int .i64 0, .slice none 0 0] 31)
        have zlt : v1.heap.size < (v1.alloc (.cells #[.int .i64 0, .int .i64 0, .int .i64 0, .slice none 0 0] 31)).heap.size := by simp
        have zhz := hz.size; replace bL := bL.nx hz; replace bM := bM.nx hz; replace hX := hX.trans hz; replace hXs := hXs.trans hz; (try replace bz := bz.nx hz); (try replace hi := hi.nx hz); (try replace hj := hj.nx hz); (try replace hS := hS.nx hz)
        refine CallStep.mk (by rfl) (fun K hK => ?_)
        go_simp
        refine hK.out _ _ (by exact ⟨bL.d4, bM.d4⟩) ?_
        clear hK K
        try simp only [Act.put, List.setIfInBounds_toArray, List.set_cons_zero, List.set_cons_succ]
        change HP _ _ _ _ _ _ (v1.alloc (.cells #[.int .i64 0, .int .i64 0, .int .i64 0, .slice none 0 0] 31))
        generalize v1.alloc (.cells #[.int .i64 0, .int .i64 0, .int .i64 0, .slice none 0 0] 31) = Wz at *
        generalize v1.heap.size = gz at *
        clear hz
        refine HP.call ?_
        refine CallStep.mk (by rfl) (fun K hK => ?_)
        go_simp
        refine (toSeg_c f2 t2 m2 A2 c2 w.heap.size l2 _ (h2.below hX (Nat.le_refl _)) hX.size hn2).mono ?_; rintro e v2 ⟨Aj, cj, rfl, hj, hv2⟩; have zhv2 := hv2.size; replace bL := bL.nx hv2; replace bM := bM.nx hv2; replace hX := hX.trans hv2; replace hXs := hXs.trans hv2; (try replace bz := bz.nx hv2); (try replace hi := hi.nx hv2); (try replace hj := hj.nx hv2); (try replace hS := hS.nx hv2)
        go_wp2_with fail
        refine hK.out _ _ (by exact ⟨bL.d4, bM.d4⟩) ?_
        clear hK K
        try simp only [Act.put, List.setIfInBounds_toArray, List.set_cons_zero, List.set_cons_succ]
        refine HP.call ?_
        refine CallStep.mk (by rfl) (fun K hK => ?_)
        go_simp
        refine (implMergeSegs_c f t m Ai ci l1 f2 t2 m2 Aj cj l2 _ _ hi.row hj.row (Nat.le_refl _) hn1 hn2).mono ?_; intro e v3 hR; obtain ⟨A9, c9, rfl, hS, hv3⟩ := hR.un Hq.out Hc.out; replace hS := hS.low (lo' := wh.heap.size) (by have := hXs.size; omega); have zhv3 := hv3.size; replace bL := bL.nx hv3; replace bM := bM.nx hv3; replace hX := hX.trans hv3; replace hXs := hXs.trans hv3; (try replace bz := bz.nx hv3); (try replace hi := hi.nx hv3); (try replace hj := hj.nx hv3); (try replace hS := hS.nx hv3)
        go_wp2_with fail
        refine hK.out _ _ (by exact ⟨bL.d4, bM.d4⟩) ?_
        clear hK K
        try simp only [Act.put, List.setIfInBounds_toArray, List.set_cons_zero, List.set_cons_succ]
        repeat (first | (refine HP.take (v := ?_) (by rfl) ?_ ?_; rotate_left; (· (intro w hSw; (try dsimp only at hSw); go_simp; try with_reducible rfl)); (try simp only [Act.put, List.setIfInBounds_toArray, List.set_cons_zero, List.set_cons_succ])) | (refine HP.skip (by rfl) ?_; (try simp only [Act.put, List.setIfInBounds_toArray, List.set_cons_zero, List.set_cons_succ])))
        obtain ⟨rc0, rc1, rc2, rc3⟩ := bz.d4
        have rf0 := bz.frozen 0
        have rf1 := bz.frozen 1
        have rf2 := bz.frozen 2
        have rf3 := bz.frozen 3
        have rlt := bz.lt
        refine HP.call ?_
        refine CallStep.mk (by rfl) (fun K hK => ?_)
        go_simp
        refine hK.out _ _ (by exact ⟨((((bL.far (p := ⟨gz, 0, none⟩) (by simp <;> omega) (.int .i64 q0)).far (p := ⟨gz, 1, none⟩) (by simp <;> omega) (.int .i64 q1)).far (p := ⟨gz, 2, none⟩) (by simp <;> omega) (.int .i64 q2)).far (p := ⟨gz, 3, none⟩) (by simp <;> omega) (.slice A9 qs.length c9)).d4, ((((bM.far (p := ⟨gz, 0, none⟩) (by simp <;> omega) (.int .i64 q0)).far (p := ⟨gz, 1, none⟩) (by simp <;> omega) (.int .i64 q1)).far (p := ⟨gz, 2, none⟩) (by simp <;> omega) (.int .i64 q2)).far (p := ⟨gz, 3, none⟩) (by simp <;> omega) (.slice A9 qs.length c9)).d4⟩) ?_
        clear hK K
        try simp only [Act.put, List.setIfInBounds_toArray, List.set_cons_zero, List.set_cons_succ]
        clear rc0 rc1 rc2 rc3 rf0 rf1 rf2 rf3
        repeat (first | (refine HP.take (v := ?_) (by rfl) ?_ ?_; rotate_left; (· (intro w hSw; (try dsimp only at hSw); go_simp; try with_reducible rfl)); (try simp only [Act.put, List.setIfInBounds_toArray, List.set_cons_zero, List.set_cons_succ])) | (refine HP.skip (by rfl) ?_; (try simp only [Act.put, List.setIfInBounds_toArray, List.set_cons_zero, List.set_cons_succ])))
        refine HP.done ?_
        have rq := put4_box bz (.int .i64 q0) (.int .i64 q1) (.int .i64 q2) (.slice A9 qs.length c9)
        have hnf := put4_nx (g := gz) hXs (by omega) (.int .i64 q0) (.int .i64 q1) (.int .i64 q2) (.slice A9 qs.length c9)
        have hSf := hS.put4 bz (by decide) (.int .i64 q0) (.int .i64 q1) (.int .i64 q2) (.slice A9 qs.length c9)
        unfold put4 at rq hnf hSf
        generalize ((((v3.setCell ⟨gz, 0, none⟩ (.int .i64 q0)).setCell ⟨gz, 1, none⟩ (.int .i64 q1)).setCell ⟨gz, 2, none⟩ (.int .i64 q2)).setCell ⟨gz, 3, none⟩ (.slice A9 qs.length c9)) = Wf at *
        exact key gz A9 c9 Wf Ai ci Aj cj ⟨rq, hSf, by omega, hnf⟩
    · have bz := Box.new W0 31 #[.int .i64 0, .int .i64 0, .int .i64 0, .slice none 0 0]
      have hz := (Nx.refl W0).alloc (.cells #[.int .i64 0, .int .i64 0, .int .i64 0, .slice none 0 0] 31)
      have zlt : W0.heap.size < (W0.alloc (.cells #[.int .i64 0, .int .i64 0, .int .i64 0, .slice none 0 0] 31)).heap.size := by simp
      have zhz := hz.size; replace bL := bL.nx hz; replace bM := bM.nx hz; replace hX := hX.trans hz; replace hXs := hXs.trans hz; (try replace bz := bz.nx hz); (try replace hi := hi.nx hz); (try replace hj := hj.nx hz); (try replace hS := hS.nx hz)
      refine CallStep.mk (by rfl) (fun K hK => ?_)
      go_simp
      refine hK.out _ _ (by exact ⟨bL.d4, bM.d4⟩) ?_
      clear hK K
      try simp only [Act.put, List.setIfInBounds_toArray, List.set_cons_zero, List.set_cons_succ]
      change HP _ _ _ _ _ _ (W0.alloc (.cells #[.int .i64 0, .int .i64 0, .int .i64 0, .slice none 0 0] 31))
      generalize W0.alloc (.cells #[.int .i64 0, .int .i64 0, .int .i64 0, .slice none 0 0] 31) = Wz at *
      generalize W0.heap.size = gz at *
      clear hz
      refine HP.call ?_
      refine CallStep.mk (by rfl) (fun K hK => ?_)
      go_simp
      refine (toSeg_c f t m A c w.heap.size l1 _ (h1.below hX (Nat.le_refl _)) hX.size hn1).mono ?_; rintro e v1 ⟨Ai, ci, rfl, hi, hv1⟩; have zhv1 := hv1.size; replace bL := bL.nx hv1; replace bM := bM.nx hv1; replace hX := hX.trans hv1; replace hXs := hXs.trans hv1; (try replace bz := bz.nx hv1); (try replace hi := hi.nx hv1); (try replace hj := hj.nx hv1); (try replace hS := hS.nx hv1)
      go_wp2_with fail
      refine hK.out _ _ (by exact ⟨bL.d4, bM.d4⟩) ?_
      clear hK K
      try simp only [Act.put, List.setIfInBounds_toArray, List.set_cons_zero, List.set_cons_succ]
      refine HP.call ?_
      refine CallStep.mk (by rfl) (fun K hK => ?_)
      go_simp
      refine (toSeg_c f2 t2 m2 A2 c2 w.heap.size l2 _ (h2.below hX (Nat.le_refl _)) hX.size hn2).mono ?_; rintro e v2 ⟨Aj, cj, rfl, hj, hv2⟩; have zhv2 := hv2.size; replace bL := bL.nx hv2; replace bM := bM.nx hv2; replace hX := hX.trans hv2; replace hXs := hXs.trans hv2; (try replace bz := bz.nx hv2); (try replace hi := hi.nx hv2); (try replace hj := hj.nx hv2); (try replace hS := hS.nx hv2)
      go_wp2_with fail
      refine hK.out _ _ (by exact ⟨bL.d4, bM.d4⟩) ?_
      clear hK K
      try simp only [Act.put, List.setIfInBounds_toArray, List.set_cons_zero, List.set_cons_succ]
      refine HP.call ?_
      refine CallStep.mk (by rfl) (fun K hK => ?_)
      go_simp
      refine (implMergeSegs_c f t m Ai ci l1 f2 t2 m2 Aj cj l2 _ _ hi.row hj.row (Nat.le_refl _) hn1 hn2).mono ?_; intro e v3 hR; obtain ⟨A9, c9, rfl, hS, hv3⟩ := hR.un Hq.out Hc.out; replace hS := hS.low (lo' := wh.heap.size) (by have := hXs.size; omega); have zhv3 := hv3.size; replace bL := bL.nx hv3; replace bM := bM.nx hv3; replace hX := hX.trans hv3; replace hXs := hXs.trans hv3; (try replace bz := bz.nx hv3); (try replace hi := hi.nx hv3); (try replace hj := hj.nx hv3); (try replace hS := hS.nx hv3)
      go_wp2_with fail
      refine hK.out _ _ (by exact ⟨bL.d4, bM.d4⟩) ?_
      clear hK K
      try simp only [Act.put, List.setIfInBounds_toArray, List.set_cons_zero, List.set_cons_succ]
      repeat (first | (refine HP.take (v := ?_) (by rfl) ?_ ?_; rotate_left; (· (intro w hSw; (try dsimp only at hSw); go_simp; try with_reducible rfl)); (try simp only [Act.put, List.setIfInBounds_toArray, List.set_cons_zero, List.set_cons_succ])) | (refine HP.skip (by rfl) ?_; (try simp only [Act.put, List.setIfInBounds_toArray, List.set_cons_zero, List.set_cons_succ])))
      obtain ⟨rc0, rc1, rc2, rc3⟩ := bz.d4
      have rf0 := bz.frozen 0
      have rf1 := bz.frozen 1
      have rf2 := bz.frozen 2
      have rf3 := bz.frozen 3
      have rlt := bz.lt
      refine HP.call ?_
      refine CallStep.mk (by rfl) (fun K hK => ?_)
      go_simp
      refine hK.out _ _ (by exact ⟨((((bL.far (p := ⟨gz, 0, none⟩) (by simp <;> omega) (.int .i64 q0)).far (p := ⟨gz, 1, none⟩) (by simp <;> omega) (.int .i64 q1)).far (p := ⟨gz, 2, none⟩) (by simp <;> omega) (.int .i64 q2)).far (p := ⟨gz, 3, none⟩) (by simp <;> omega) (.slice A9 qs.length c9)).d4, ((((bM.far (p := ⟨gz, 0, none⟩) (by simp <;> omega) (.int .i64 q0)).far (p := ⟨gz, 1, none⟩) (by simp <;> omega) (.int .i64 q1)).far (p := ⟨gz, 2, none⟩) (by simp <;> omega) (.int .i64 q2)).far (p := ⟨gz, 3, none⟩) (by simp <;> omega) (.slice A9 qs.length c9)).d4⟩) ?_
      clear hK K
      try simp only [Act.put, List.setIfInBounds_toArray, List.set_cons_zero, List.set_cons_succ]
      clear rc0 rc1 rc2 rc3 rf0 rf1 rf2 rf3
      repeat (first | (refine HP.take (v := ?_) (by rfl) ?_ ?_; rotate_left; (· (intro w hSw; (try dsimp only at hSw); go_simp; try with_reducible rfl)); (try simp only [Act.put, List.setIfInBounds_toArray, List.set_cons_zero, List.set_cons_succ])) | (refine HP.skip (by rfl) ?_; (try simp only [Act.put, List.setIfInBounds_toArray, List.set_cons_zero, List.set_cons_succ])))
      refine HP.done ?_
      have rq := put4_box bz (.int .i64 q0) (.int .i64 q1) (.int .i64 q2) (.slice A9 qs.length c9)
      have hnf := put4_nx (g := gz) hXs (by omega) (.int .i64 q0) (.int .i64 q1) (.int .i64 q2) (.slice A9 qs.length c9)
      have hSf := hS.put4 bz (by decide) (.int .i64 q0) (.int .i64 q1) (.int .i64 q2) (.slice A9 qs.length c9)
      unfold put4 at rq hnf hSf
      generalize ((((v3.setCell ⟨gz, 0, none⟩ (.int .i64 q0)).setCell ⟨gz, 1, none⟩ (.int .i64 q1)).setCell ⟨gz, 2, none⟩ (.int .i64 q2)).setCell ⟨gz, 3, none⟩ (.slice A9 qs.length c9)) = Wf at *
      exact key gz A9 c9 Wf Ai ci Aj cj ⟨rq, hSf, by omega, hnf⟩
  intro gH A15 c15 W15 Ai15 ci15 Aj15 cj15 ⟨bH, hS15, hgH, hxr15⟩
  have zb15 := bH.lt
  have zhxr15 := hxr15.size; replace bL := bL.nx hxr15; replace bM := bM.nx hxr15; replace hS5 := hS5.nx hxr15; replace bW := bW.nx hxr15; replace bX := bX.nx hxr15; replace bY := bY.nx hxr15; replace bG := bG.nx hxr15; replace hS8b := hS8b.nx hxr15; replace hX := hX.trans hxr15
  replace hS15 := hS15.sr
  clear hxr15
  obtain ⟨lc0, lc1, lc2, lc3⟩ := bW.d4
  obtain ⟨nc0, nc1, nc2, nc3⟩ := bH.d4
  go_wp2_with fail
  refine (eqSeg_c q0 q1 q2 A15 A5 c15 c5 _ qs _ hS15.sl.row hS5.sl.row (Nat.le_refl _) hy).mono ?_
  rintro e wg ⟨rfl, hxg⟩
  have zhxg := hxg.size; replace bL := bL.nx hxg; replace bM := bM.nx hxg; replace hS5 := hS5.nx hxg; replace bW := bW.nx hxg; replace bX := bX.nx hxg; replace bY := bY.nx hxg; replace bG := bG.nx hxg; replace hS8b := hS8b.nx hxg; replace hS15 := hS15.nx hxg; replace bH := bH.nx hxg; replace hX := hX.trans hxg
  clear lc0 lc1 lc2 lc3 nc0 nc1 nc2 nc3
  obtain ⟨nc0, nc1, nc2, nc3⟩ := bG.d4
  go_wp2_with fail
  refine (heldSeg_c q0 q1 q2 A8 qs.length c8 _ _ hS8b.sl.row (Nat.le_refl _) hy).mono ?_
  rintro e wi ⟨rfl, hxi⟩
  rw [Hk3.out]
  have zhxi := hxi.size; replace bL := bL.nx hxi; replace bM := bM.nx hxi; replace hS5 := hS5.nx hxi; replace bW := bW.nx hxi; replace bX := bX.nx hxi; replace bY := bY.nx hxi; replace bG := bG.nx hxi; replace hS8b := hS8b.nx hxi; replace hS15 := hS15.nx hxi; replace bH := bH.nx hxi; replace hX := hX.trans hxi
  go_wp2
  go_ret
  exact ⟨rfl, hX⟩
end Go.Proofs.Ytckekkhfjcaclaa
