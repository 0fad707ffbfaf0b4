/-
  The walk of the law FnExactSegOf.
  Conditions: the list that comes in can be read.
-/
import Derived.Test.YtihpadelfpogmaaSos
import Derived.Test.YtihpadelfpogmaaSoi
import Derived.Test.YtihpadelfpogmaaOpi
import Derived.Test.YtihpadelfpogmaaSge
import Derived.Test.YtihpadelfpogmaaSgt
import Derived.Test.YtihpadelfpogmaaMkg
import Derived.Test.YtihpadelfpogmaaLfrm
namespace Go.Proofs.Ytihpadelfpogmaa
set_option linter.unusedVariables false
set_option maxRecDepth 100000
open Go.RowKit
theorem RetSC.un {w w' : World} {q : Sg4} {cd cd' : Int} {e : Ending} {q0 q1 q2 : Int} {qs : List Chg} (h : RetSC w q cd e w') (hq : q = (q0, q1, q2, qs)) (hc : cd = cd') :
    ∃ (A : Option Addr) (c : Nat), e = .returned (.tuple #[.agg #[.int .i64 q0, .int .i64 q1, .int .i64 q2, .slice A qs.length c], .int .i64 cd']) ∧ Sl w' w.heap.size A 84 (qs.length * 3) (chAt qs) ∧ Nx w w' := by
  subst hq hc
  exact h
theorem merge6 {G : Nat → Option Addr → Nat → World → Option Addr → Nat → Prop} {F : Nat → Option Addr → Nat → World → Prop} {R : Prop} (main : (∀ g A c W Ai ci, F g A c W → G g A c W Ai ci) → R) (key : ∀ g A c W Ai ci, F g A c W → G g A c W Ai ci) : R := main key
theorem Sl.put4 {u : World} {lo g m : Nat} {A : Option Addr} {t t' : TypeId} {f : Nat → Value} {a b c d : Value} (h : Sl u lo A t m f) (hb : Box u g t' #[a, b, c, d]) (ht : t' ≠ t) (v0 v1 v2 v3 : Value) : Sl (put4 u g v0 v1 v2 v3) lo A t m f :=
  (((h.far_ty (p := ⟨g, 0, none⟩) hb ht v0).far_ty (p := ⟨g, 1, none⟩) (hb.set 0 v0) ht v1).far_ty (p := ⟨g, 2, none⟩) ((hb.set 0 v0).set 1 v1) ht v2).far_ty (p := ⟨g, 3, none⟩) (((hb.set 0 v0).set 1 v1).set 2 v2) ht v3
theorem sgOf_len (xs : List Int) (p b v t : Int) : (sgOf xs p b v t).2.2.2.length ≤ 1 := by
  unfold sgOf
  split
  · exact Nat.le_refl _
  · exact Nat.zero_le _
set_option maxRecDepth 100000 in
set_option maxHeartbeats 8000000 in
theorem lawSegOf (A2 : Option Addr) (c2 : Nat) (xs : List Int) (p b v t : Int) (w : World) (h : Ins w w.heap.size A2 xs) (hw : ∀ k, k < xs.length → (Lit.int .i64 (xs.getD k 0)).wf = true) (hn : xs.length ≤ 2 ^ 63 - 1) :
    Calls Try.prog 8 #[.slice A2 xs.length c2, .agg #[.int .i64 p, .int .i64 b, .int .i64 v, .int .i64 t]] w fun e w' => e = .returned (.bool true) ∧ Nx w w' := by
  clear hw hn
  by_cases hl : xs.length ≤ 1048576
  case neg =>
    have hd : decide (1048576 < (xs.length : Int)) = true := by simp; omega
    go_enter Try.func8, Try.ntmps8
    go_wp2
    go_ret
    exact ⟨rfl, (Nx.refl _).alloc _⟩
  have hd : decide (1048576 < (xs.length : Int)) = false := by simp; omega
  obtain ⟨⟨q0, q1, q2, qs⟩, Hq⟩ : ∃ y, Hid (sgOf xs p b v t = y) := ⟨_, rfl⟩
  obtain ⟨cd, Hc⟩ : ∃ y, Hid (askC xs (frameB p b v t) = y) := ⟨_, rfl⟩
  have hy : qs.length ≤ 1048576 := by have := sgOf_len xs p b v t; rw [Hq.out] at this; exact Nat.le_trans this (by decide)
  go_enter Try.func8, Try.ntmps8
  go_wp2_with fail
  have bL := Box.new w 51 #[.int .i64 p, .int .i64 b, .int .i64 v, .int .i64 t]
  have hX := (Nx.refl w).alloc (.cells #[.int .i64 p, .int .i64 b, .int .i64 v, .int .i64 t] 51)
  have zb := bL.lt
  generalize w.alloc (.cells #[.int .i64 p, .int .i64 b, .int .i64 v, .int .i64 t] 51) = W at *
  refine merge6 (F := (fun gq Aq cq Wq => Box Wq gq 54 #[.int .i64 q0, .int .i64 q1, .int .i64 q2, .slice Aq qs.length cq] ∧ Sl Wq W.heap.size Aq 84 (qs.length * 3) (chAt qs) ∧ W.heap.size ≤ gq ∧ Nx W Wq)) (G := ?_) (fun key => ?_) ?_
  rotate_left
  · have hXs : Nx W W.drew := (Nx.refl W).drew
    have hXk := hX
    have hX := hXk.drew
    clear hXk
    have zd : W.heap.size ≤ W.drew.heap.size := Nat.le_refl _
    have bLk := bL
    have bL : Box W.drew w.heap.size 51 #[.int .i64 p, .int .i64 b, .int .i64 v, .int .i64 t] := bLk
    clear bLk
    have zbl := bL.lt
    refine wp_region_plan (.t 0 (.t 2 (.b 1 (.b 3 (.b 4 (.t 5 (.t 6 (.t 7 (.c 8 (.c 9 (.t 10 .e)))))) 8 (.c 4 (.t 5 (.t 6 (.t 7 (.c 9 (.t 10 .e))))))) 8 (.c 3 (.c 4 (.t 5 (.t 6 (.t 7 (.c 9 (.t 10 .e)))))))) 8 (.c 1 (.c 3 (.c 4 (.t 5 (.t 6 (.t 7 (.c 9 (.t 10 .e))))))))))) (fun w' => w'.cell? ⟨w.heap.size, 0, none⟩ = some (.int .i64 p) ∧ w'.cell? ⟨w.heap.size, 1, none⟩ = some (.int .i64 b) ∧ w'.cell? ⟨w.heap.size, 2, none⟩ = some (.int .i64 v) ∧ w'.cell? ⟨w.heap.size, 3, none⟩ = some (.int .i64 t)) (by kernel_rfl) (by kernel_rfl) rfl (by kernel_rfl) (fun _ _ d _ _ h => by cases d <;> exact h) (by exact bL.d4) ?_
    simp only [psOf, List.getD_cons_zero, List.getD_cons_succ]
    generalize W.drew = W0 at *
    repeat (first | (refine HP.take (v := ?_) (by rfl) ?_ ?_; rotate_left; (· (intro w hSw; (try dsimp only at hSw); go_simp; try with_reducible rfl)); (try simp only [Act.put, List.setIfInBounds_toArray, List.set_cons_zero, List.set_cons_succ])) | (refine HP.skip (by rfl) ?_; (try simp only [Act.put, List.setIfInBounds_toArray, List.set_cons_zero, List.set_cons_succ])))
    refine HP.both ?_ ?_
    · refine CallStep.mk (by rfl) (fun K hK => ?_)
      go_simp
      refine (toIntS_c A2 c2 w.heap.size xs _ (h.below hX (Nat.le_refl _)) hX.size hl).mono ?_; rintro e v1 ⟨Ai, ci, rfl, hi, hv1⟩; have zhv1 := hv1.size; replace bL := bL.nx hv1; replace hX := hX.trans hv1; replace hXs := hXs.trans hv1; (try replace bz := bz.nx hv1); (try replace hi := hi.nx hv1); (try replace hS := hS.nx hv1)
      go_wp2_with fail
      refine hK.out _ _ (by exact bL.d4) ?_
      clear hK K
      try simp only [Act.put, List.setIfInBounds_toArray, List.set_cons_zero, List.set_cons_succ]
      refine HP.both ?_ ?_
      · refine CallStep.mk (by rfl) (fun K hK => ?_)
        go_simp
        refine (toFrame_c p b v t _).mono ?_; rintro e v2 ⟨rfl, hv2⟩; have zhv2 := hv2.size; replace bL := bL.nx hv2; replace hX := hX.trans hv2; replace hXs := hXs.trans hv2; (try replace bz := bz.nx hv2); (try replace hi := hi.nx hv2); (try replace hS := hS.nx hv2)
        go_wp2_with fail
        refine hK.out _ _ (by exact bL.d4) ?_
        clear hK K
        try simp only [Act.put, List.setIfInBounds_toArray, List.set_cons_zero, List.set_cons_succ]
        refine HP.both ?_ ?_
        · refine CallStep.mk (by rfl) (fun K hK => ?_)
          go_simp
          refine (specSegOf_c Ai ci _ xs p b v t _ hi.row (Nat.le_refl _) hl).mono ?_; intro e v3 hR; obtain ⟨A9, c9, rfl, hS, hv3⟩ := hR.un Hq.out Hc.out; replace hS := hS.low (lo' := W.heap.size) (by have := hXs.size; omega); have zhv3 := hv3.size; replace bL := bL.nx hv3; replace hX := hX.trans hv3; replace hXs := hXs.trans hv3; (try replace bz := bz.nx hv3); (try replace hi := hi.nx hv3); (try replace hS := hS.nx hv3)
          go_wp2_with fail
          refine hK.out _ _ (by exact bL.d4) ?_
          clear hK K
          try simp only [Act.put, List.setIfInBounds_toArray, List.set_cons_zero, List.set_cons_succ]
          repeat (first | (refine HP.take (v := ?_) (by rfl) ?_ ?_; rotate_left; (· (intro w hSw; (try dsimp only at hSw); go_simp; try with_reducible rfl)); (try simp only [Act.put, List.setIfInBounds_toArray, List.set_cons_zero, List.set_cons_succ])) | (refine HP.skip (by rfl) ?_; (try simp only [Act.put, List.setIfInBounds_toArray, List.set_cons_zero, List.set_cons_succ])))
          refine HP.call ?_
          have bz := Box.new v3 54 #[.int .i64 0, .int .i64 0, .int .i64 0, .slice none 0 0]
          have hz := (Nx.refl v3).alloc (.cells #[.int .i64 0, .int .i64 0, .int .i64 0, .slice none 0 0] 54)
          have zlt : v3.heap.size < (v3.alloc (.cells #[.int .i64 0, .int .i64 0, .int .i64 0, .slice none 0 0] 54)).heap.size := by simp
          have zhz := hz.size; replace bL := bL.nx hz; replace hX := hX.trans hz; replace hXs := hXs.trans hz; (try replace bz := bz.nx hz); (try replace hi := hi.nx hz); (try replace hS := hS.nx hz)
          refine CallStep.mk (by rfl) (fun K hK => ?_)
          go_simp
          refine hK.out _ _ (by exact bL.d4) ?_
          clear hK K
          try simp only [Act.put, List.setIfInBounds_toArray, List.set_cons_zero, List.set_cons_succ]
          change HP _ _ _ _ _ _ (v3.alloc (.cells #[.int .i64 0, .int .i64 0, .int .i64 0, .slice none 0 0] 54))
          generalize v3.alloc (.cells #[.int .i64 0, .int .i64 0, .int .i64 0, .slice none 0 0] 54) = Wz at *
          generalize v3.heap.size = gz at *
          clear hz
          obtain ⟨rc0, rc1, rc2, rc3⟩ := bz.d4
          have rf0 := bz.frozen 0
          have rf1 := bz.frozen 1
          have rf2 := bz.frozen 2
          have rf3 := bz.frozen 3
          have rlt := bz.lt
          refine HP.call ?_
          refine CallStep.mk (by rfl) (fun K hK => ?_)
          go_simp
          refine hK.out _ _ (by exact ((((bL.far (p := ⟨gz, 0, none⟩) (by simp; omega) (.int .i64 q0)).far (p := ⟨gz, 1, none⟩) (by simp; omega) (.int .i64 q1)).far (p := ⟨gz, 2, none⟩) (by simp; omega) (.int .i64 q2)).far (p := ⟨gz, 3, none⟩) (by simp; omega) (.slice A9 qs.length c9)).d4) ?_
          clear hK K
          try simp only [Act.put, List.setIfInBounds_toArray, List.set_cons_zero, List.set_cons_succ]
          clear rc0 rc1 rc2 rc3 rf0 rf1 rf2 rf3
          repeat (first | (refine HP.take (v := ?_) (by rfl) ?_ ?_; rotate_left; (· (intro w hSw; (try dsimp only at hSw); go_simp; try with_reducible rfl)); (try simp only [Act.put, List.setIfInBounds_toArray, List.set_cons_zero, List.set_cons_succ])) | (refine HP.skip (by rfl) ?_; (try simp only [Act.put, List.setIfInBounds_toArray, List.set_cons_zero, List.set_cons_succ])))
          refine HP.done ?_
          have rq := put4_box bz (.int .i64 q0) (.int .i64 q1) (.int .i64 q2) (.slice A9 qs.length c9)
          have hnf := put4_nx (g := gz) hXs (by omega) (.int .i64 q0) (.int .i64 q1) (.int .i64 q2) (.slice A9 qs.length c9)
          have hSf := hS.put4 bz (by decide) (.int .i64 q0) (.int .i64 q1) (.int .i64 q2) (.slice A9 qs.length c9)
          unfold put4 at rq hnf hSf
          generalize ((((Wz.setCell ⟨gz, 0, none⟩ (.int .i64 q0)).setCell ⟨gz, 1, none⟩ (.int .i64 q1)).setCell ⟨gz, 2, none⟩ (.int .i64 q2)).setCell ⟨gz, 3, none⟩ (.slice A9 qs.length c9)) = Wf at *
          exact key gz A9 c9 Wf Ai ci ⟨rq, hSf, by omega, hnf⟩
        · have bz := Box.new v2 54 #[.int .i64 0, .int .i64 0, .int .i64 0, .slice none 0 0]
          have hz := (Nx.refl v2).alloc (.cells #[.int .i64 0, .int .i64 0, .int .i64 0, .slice none 0 0] 54)
          have zlt : v2.heap.size < (v2.alloc (.cells #[.int .i64 0, .int .i64 0, .int .i64 0, .slice none 0 0] 54)).heap.size := by simp
          have zhz := hz.size; replace bL := bL.nx hz; replace hX := hX.trans hz; replace hXs := hXs.trans hz; (try replace bz := bz.nx hz); (try replace hi := hi.nx hz); (try replace hS := hS.nx hz)
          refine CallStep.mk (by rfl) (fun K hK => ?_)
          go_simp
          refine hK.out _ _ (by exact bL.d4) ?_
          clear hK K
          try simp only [Act.put, List.setIfInBounds_toArray, List.set_cons_zero, List.set_cons_succ]
          change HP _ _ _ _ _ _ (v2.alloc (.cells #[.int .i64 0, .int .i64 0, .int .i64 0, .slice none 0 0] 54))
          generalize v2.alloc (.cells #[.int .i64 0, .int .i64 0, .int .i64 0, .slice none 0 0] 54) = Wz at *
          generalize v2.heap.size = gz at *
          clear hz
          refine HP.call ?_
          refine CallStep.mk (by rfl) (fun K hK => ?_)
          go_simp
          refine (specSegOf_c Ai ci _ xs p b v t _ hi.row (Nat.le_refl _) hl).mono ?_; intro e v3 hR; obtain ⟨A9, c9, rfl, hS, hv3⟩ := hR.un Hq.out Hc.out; replace hS := hS.low (lo' := W.heap.size) (by have := hXs.size; omega); have zhv3 := hv3.size; replace bL := bL.nx hv3; replace hX := hX.trans hv3; replace hXs := hXs.trans hv3; (try replace bz := bz.nx hv3); (try replace hi := hi.nx hv3); (try replace hS := hS.nx hv3)
          go_wp2_with fail
          refine hK.out _ _ (by exact bL.d4) ?_
          clear hK K
          try simp only [Act.put, List.setIfInBounds_toArray, List.set_cons_zero, List.set_cons_succ]
          repeat (first | (refine HP.take (v := ?_) (by rfl) ?_ ?_; rotate_left; (· (intro w hSw; (try dsimp only at hSw); go_simp; try with_reducible rfl)); (try simp only [Act.put, List.setIfInBounds_toArray, List.set_cons_zero, List.set_cons_succ])) | (refine HP.skip (by rfl) ?_; (try simp only [Act.put, List.setIfInBounds_toArray, List.set_cons_zero, List.set_cons_succ])))
          obtain ⟨rc0, rc1, rc2, rc3⟩ := bz.d4
          have rf0 := bz.frozen 0
          have rf1 := bz.frozen 1
          have rf2 := bz.frozen 2
          have rf3 := bz.frozen 3
          have rlt := bz.lt
          refine HP.call ?_
          refine CallStep.mk (by rfl) (fun K hK => ?_)
          go_simp
          refine hK.out _ _ (by exact ((((bL.far (p := ⟨gz, 0, none⟩) (by simp; omega) (.int .i64 q0)).far (p := ⟨gz, 1, none⟩) (by simp; omega) (.int .i64 q1)).far (p := ⟨gz, 2, none⟩) (by simp; omega) (.int .i64 q2)).far (p := ⟨gz, 3, none⟩) (by simp; omega) (.slice A9 qs.length c9)).d4) ?_
          clear hK K
          try simp only [Act.put, List.setIfInBounds_toArray, List.set_cons_zero, List.set_cons_succ]
          clear rc0 rc1 rc2 rc3 rf0 rf1 rf2 rf3
          repeat (first | (refine HP.take (v := ?_) (by rfl) ?_ ?_; rotate_left; (· (intro w hSw; (try dsimp only at hSw); go_simp; try with_reducible rfl)); (try simp only [Act.put, List.setIfInBounds_toArray, List.set_cons_zero, List.set_cons_succ])) | (refine HP.skip (by rfl) ?_; (try simp only [Act.put, List.setIfInBounds_toArray, List.set_cons_zero, List.set_cons_succ])))
          refine HP.done ?_
          have rq := put4_box bz (.int .i64 q0) (.int .i64 q1) (.int .i64 q2) (.slice A9 qs.length c9)
          have hnf := put4_nx (g := gz) hXs (by omega) (.int .i64 q0) (.int .i64 q1) (.int .i64 q2) (.slice A9 qs.length c9)
          have hSf := hS.put4 bz (by decide) (.int .i64 q0) (.int .i64 q1) (.int .i64 q2) (.slice A9 qs.length c9)
          unfold put4 at rq hnf hSf
          generalize ((((v3.setCell ⟨gz, 0, none⟩ (.int .i64 q0)).setCell ⟨gz, 1, none⟩ (.int .i64 q1)).setCell ⟨gz, 2, none⟩ (.int .i64 q2)).setCell ⟨gz, 3, none⟩ (.slice A9 qs.length c9)) = Wf at *
          exact key gz A9 c9 Wf Ai ci ⟨rq, hSf, by omega, hnf⟩
      · have bz := Box.new v1 54 #[.int .i64 0, .int .i64 0, .int .i64 0, .slice none 0 0]
        have hz := (Nx.refl v1).alloc (.cells #[.int .i64 0, .int .i64 0, .int .i64 0, .slice none 0 0] 54)
        have zlt : v1.heap.size < (v1.alloc (.cells #[.int .i64 0, .int .i64 0, .int .i64 0, .slice none 0 0] 54)).heap.size := by simp
        have zhz := hz.size; replace bL := bL.nx hz; replace hX := hX.trans hz; replace hXs := hXs.trans hz; (try replace bz := bz.nx hz); (try replace hi := hi.nx hz); (try replace hS := hS.nx hz)
        refine CallStep.mk (by rfl) (fun K hK => ?_)
        go_simp
        refine hK.out _ _ (by exact bL.d4) ?_
        clear hK K
        try simp only [Act.put, List.setIfInBounds_toArray, List.set_cons_zero, List.set_cons_succ]
        change HP _ _ _ _ _ _ (v1.alloc (.cells #[.int .i64 0, .int .i64 0, .int .i64 0, .slice none 0 0] 54))
        generalize v1.alloc (.cells #[.int .i64 0, .int .i64 0, .int .i64 0, .slice none 0 0] 54) = Wz at *
        generalize v1.heap.size = gz at *
        clear hz
        refine HP.call ?_
        refine CallStep.mk (by rfl) (fun K hK => ?_)
        go_simp
        refine (toFrame_c p b v t _).mono ?_; rintro e v2 ⟨rfl, hv2⟩; have zhv2 := hv2.size; replace bL := bL.nx hv2; replace hX := hX.trans hv2; replace hXs := hXs.trans hv2; (try replace bz := bz.nx hv2); (try replace hi := hi.nx hv2); (try replace hS := hS.nx hv2)
        go_wp2_with fail
        refine hK.out _ _ (by exact bL.d4) ?_
        clear hK K
        try simp only [Act.put, List.setIfInBounds_toArray, List.set_cons_zero, List.set_cons_succ]
        refine HP.call ?_
        refine CallStep.mk (by rfl) (fun K hK => ?_)
        go_simp
        refine (specSegOf_c Ai ci _ xs p b v t _ hi.row (Nat.le_refl _) hl).mono ?_; intro e v3 hR; obtain ⟨A9, c9, rfl, hS, hv3⟩ := hR.un Hq.out Hc.out; replace hS := hS.low (lo' := W.heap.size) (by have := hXs.size; omega); have zhv3 := hv3.size; replace bL := bL.nx hv3; replace hX := hX.trans hv3; replace hXs := hXs.trans hv3; (try replace bz := bz.nx hv3); (try replace hi := hi.nx hv3); (try replace hS := hS.nx hv3)
        go_wp2_with fail
        refine hK.out _ _ (by exact bL.d4) ?_
        clear hK K
        try simp only [Act.put, List.setIfInBounds_toArray, List.set_cons_zero, List.set_cons_succ]
        repeat (first | (refine HP.take (v := ?_) (by rfl) ?_ ?_; rotate_left; (· (intro w hSw; (try dsimp only at hSw); go_simp; try with_reducible rfl)); (try simp only [Act.put, List.setIfInBounds_toArray, List.set_cons_zero, List.set_cons_succ])) | (refine HP.skip (by rfl) ?_; (try simp only [Act.put, List.setIfInBounds_toArray, List.set_cons_zero, List.set_cons_succ])))
        obtain ⟨rc0, rc1, rc2, rc3⟩ := bz.d4
        have rf0 := bz.frozen 0
        have rf1 := bz.frozen 1
        have rf2 := bz.frozen 2
        have rf3 := bz.frozen 3
        have rlt := bz.lt
        refine HP.call ?_
        refine CallStep.mk (by rfl) (fun K hK => ?_)
        go_simp
        refine hK.out _ _ (by exact ((((bL.far (p := ⟨gz, 0, none⟩) (by simp; omega) (.int .i64 q0)).far (p := ⟨gz, 1, none⟩) (by simp; omega) (.int .i64 q1)).far (p := ⟨gz, 2, none⟩) (by simp; omega) (.int .i64 q2)).far (p := ⟨gz, 3, none⟩) (by simp; omega) (.slice A9 qs.length c9)).d4) ?_
        clear hK K
        try simp only [Act.put, List.setIfInBounds_toArray, List.set_cons_zero, List.set_cons_succ]
        clear rc0 rc1 rc2 rc3 rf0 rf1 rf2 rf3
        repeat (first | (refine HP.take (v := ?_) (by rfl) ?_ ?_; rotate_left; (· (intro w hSw; (try dsimp only at hSw); go_simp; try with_reducible rfl)); (try simp only [Act.put, List.setIfInBounds_toArray, List.set_cons_zero, List.set_cons_succ])) | (refine HP.skip (by rfl) ?_; (try simp only [Act.put, List.setIfInBounds_toArray, List.set_cons_zero, List.set_cons_succ])))
        refine HP.done ?_
        have rq := put4_box bz (.int .i64 q0) (.int .i64 q1) (.int .i64 q2) (.slice A9 qs.length c9)
        have hnf := put4_nx (g := gz) hXs (by omega) (.int .i64 q0) (.int .i64 q1) (.int .i64 q2) (.slice A9 qs.length c9)
        have hSf := hS.put4 bz (by decide) (.int .i64 q0) (.int .i64 q1) (.int .i64 q2) (.slice A9 qs.length c9)
        unfold put4 at rq hnf hSf
        generalize ((((v3.setCell ⟨gz, 0, none⟩ (.int .i64 q0)).setCell ⟨gz, 1, none⟩ (.int .i64 q1)).setCell ⟨gz, 2, none⟩ (.int .i64 q2)).setCell ⟨gz, 3, none⟩ (.slice A9 qs.length c9)) = Wf at *
        exact key gz A9 c9 Wf Ai ci ⟨rq, hSf, by omega, hnf⟩
    · have bz := Box.new W0 54 #[.int .i64 0, .int .i64 0, .int .i64 0, .slice none 0 0]
      have hz := (Nx.refl W0).alloc (.cells #[.int .i64 0, .int .i64 0, .int .i64 0, .slice none 0 0] 54)
      have zlt : W0.heap.size < (W0.alloc (.cells #[.int .i64 0, .int .i64 0, .int .i64 0, .slice none 0 0] 54)).heap.size := by simp
      have zhz := hz.size; replace bL := bL.nx hz; replace hX := hX.trans hz; replace hXs := hXs.trans hz; (try replace bz := bz.nx hz); (try replace hi := hi.nx hz); (try replace hS := hS.nx hz)
      refine CallStep.mk (by rfl) (fun K hK => ?_)
      go_simp
      refine hK.out _ _ (by exact bL.d4) ?_
      clear hK K
      try simp only [Act.put, List.setIfInBounds_toArray, List.set_cons_zero, List.set_cons_succ]
      change HP _ _ _ _ _ _ (W0.alloc (.cells #[.int .i64 0, .int .i64 0, .int .i64 0, .slice none 0 0] 54))
      generalize W0.alloc (.cells #[.int .i64 0, .int .i64 0, .int .i64 0, .slice none 0 0] 54) = Wz at *
      generalize W0.heap.size = gz at *
      clear hz
      refine HP.call ?_
      refine CallStep.mk (by rfl) (fun K hK => ?_)
      go_simp
      refine (toIntS_c A2 c2 w.heap.size xs _ (h.below hX (Nat.le_refl _)) hX.size hl).mono ?_; rintro e v1 ⟨Ai, ci, rfl, hi, hv1⟩; have zhv1 := hv1.size; replace bL := bL.nx hv1; replace hX := hX.trans hv1; replace hXs := hXs.trans hv1; (try replace bz := bz.nx hv1); (try replace hi := hi.nx hv1); (try replace hS := hS.nx hv1)
      go_wp2_with fail
      refine hK.out _ _ (by exact bL.d4) ?_
      clear hK K
      try simp only [Act.put, List.setIfInBounds_toArray, List.set_cons_zero, List.set_cons_succ]
      refine HP.call ?_
      refine CallStep.mk (by rfl) (fun K hK => ?_)
      go_simp
      refine (toFrame_c p b v t _).mono ?_; rintro e v2 ⟨rfl, hv2⟩; have zhv2 := hv2.size; replace bL := bL.nx hv2; replace hX := hX.trans hv2; replace hXs := hXs.trans hv2; (try replace bz := bz.nx hv2); (try replace hi := hi.nx hv2); (try replace hS := hS.nx hv2)
      go_wp2_with fail
      refine hK.out _ _ (by exact bL.d4) ?_
      clear hK K
      try simp only [Act.put, List.setIfInBounds_toArray, List.set_cons_zero, List.set_cons_succ]
      refine HP.call ?_
      refine CallStep.mk (by rfl) (fun K hK => ?_)
      go_simp
      refine (specSegOf_c Ai ci _ xs p b v t _ hi.row (Nat.le_refl _) hl).mono ?_; intro e v3 hR; obtain ⟨A9, c9, rfl, hS, hv3⟩ := hR.un Hq.out Hc.out; replace hS := hS.low (lo' := W.heap.size) (by have := hXs.size; omega); have zhv3 := hv3.size; replace bL := bL.nx hv3; replace hX := hX.trans hv3; replace hXs := hXs.trans hv3; (try replace bz := bz.nx hv3); (try replace hi := hi.nx hv3); (try replace hS := hS.nx hv3)
      go_wp2_with fail
      refine hK.out _ _ (by exact bL.d4) ?_
      clear hK K
      try simp only [Act.put, List.setIfInBounds_toArray, List.set_cons_zero, List.set_cons_succ]
      repeat (first | (refine HP.take (v := ?_) (by rfl) ?_ ?_; rotate_left; (· (intro w hSw; (try dsimp only at hSw); go_simp; try with_reducible rfl)); (try simp only [Act.put, List.setIfInBounds_toArray, List.set_cons_zero, List.set_cons_succ])) | (refine HP.skip (by rfl) ?_; (try simp only [Act.put, List.setIfInBounds_toArray, List.set_cons_zero, List.set_cons_succ])))
      obtain ⟨rc0, rc1, rc2, rc3⟩ := bz.d4
      have rf0 := bz.frozen 0
      have rf1 := bz.frozen 1
      have rf2 := bz.frozen 2
      have rf3 := bz.frozen 3
      have rlt := bz.lt
      refine HP.call ?_
      refine CallStep.mk (by rfl) (fun K hK => ?_)
      go_simp
      refine hK.out _ _ (by exact ((((bL.far (p := ⟨gz, 0, none⟩) (by simp; omega) (.int .i64 q0)).far (p := ⟨gz, 1, none⟩) (by simp; omega) (.int .i64 q1)).far (p := ⟨gz, 2, none⟩) (by simp; omega) (.int .i64 q2)).far (p := ⟨gz, 3, none⟩) (by simp; omega) (.slice A9 qs.length c9)).d4) ?_
      clear hK K
      try simp only [Act.put, List.setIfInBounds_toArray, List.set_cons_zero, List.set_cons_succ]
      clear rc0 rc1 rc2 rc3 rf0 rf1 rf2 rf3
      repeat (first | (refine HP.take (v := ?_) (by rfl) ?_ ?_; rotate_left; (· (intro w hSw; (try dsimp only at hSw); go_simp; try with_reducible rfl)); (try simp only [Act.put, List.setIfInBounds_toArray, List.set_cons_zero, List.set_cons_succ])) | (refine HP.skip (by rfl) ?_; (try simp only [Act.put, List.setIfInBounds_toArray, List.set_cons_zero, List.set_cons_succ])))
      refine HP.done ?_
      have rq := put4_box bz (.int .i64 q0) (.int .i64 q1) (.int .i64 q2) (.slice A9 qs.length c9)
      have hnf := put4_nx (g := gz) hXs (by omega) (.int .i64 q0) (.int .i64 q1) (.int .i64 q2) (.slice A9 qs.length c9)
      have hSf := hS.put4 bz (by decide) (.int .i64 q0) (.int .i64 q1) (.int .i64 q2) (.slice A9 qs.length c9)
      unfold put4 at rq hnf hSf
      generalize ((((v3.setCell ⟨gz, 0, none⟩ (.int .i64 q0)).setCell ⟨gz, 1, none⟩ (.int .i64 q1)).setCell ⟨gz, 2, none⟩ (.int .i64 q2)).setCell ⟨gz, 3, none⟩ (.slice A9 qs.length c9)) = Wf at *
      exact key gz A9 c9 Wf Ai ci ⟨rq, hSf, by omega, hnf⟩
  intro gW A5 c5 W5 Ai5 ci5 ⟨bW, hS5, hgW, hxr5⟩
  have zb5 := bW.lt
  have zhxr5 := hxr5.size; replace bL := bL.nx hxr5; replace hX := hX.trans hxr5
  replace hS5 := hS5.sr
  clear hxr5
  go_wp2_with fail
  refine (toIntS_c A2 c2 w.heap.size xs _ (h.below hX (Nat.le_refl _)) hX.size hl).mono ?_
  rintro e w4 ⟨A6, c6, rfl, hS6, hx4⟩
  replace hS6 := hS6.sr
  have zhx4 := hx4.size; replace bL := bL.nx hx4; replace hS5 := hS5.nx hx4; replace bW := bW.nx hx4; replace hX := hX.trans hx4
  obtain ⟨l0, l1, l2, l3⟩ := bL.d4
  go_wp2_with fail
  refine (toFrame_c p b v t _).mono ?_
  rintro e w5 ⟨rfl, hx5⟩
  have zhx5 := hx5.size; replace bL := bL.nx hx5; replace hS5 := hS5.nx hx5; replace bW := bW.nx hx5; replace hS6 := hS6.nx hx5; replace hX := hX.trans hx5
  clear l0 l1 l2 l3
  go_wp2_with fail
  refine (implSegOf_c A6 c6 _ xs p b v t _ hS6.sl.row (Nat.le_refl _) hl).mono ?_
  intro e w6 hR
  obtain ⟨A8, c8, rfl, hS8, hx6⟩ := hR.un Hq.out Hc.out
  replace hS8 := hS8.sr
  have zhx6 := hx6.size; replace bL := bL.nx hx6; replace hS5 := hS5.nx hx6; replace bW := bW.nx hx6; replace hS6 := hS6.nx hx6; replace hX := hX.trans hx6
  obtain ⟨l0, l1, l2, l3⟩ := bW.d4
  have lltW := bW.lt
  go_wp2_with fail
  have bG := Box.new w6 54 #[.int .i64 q0, .int .i64 q1, .int .i64 q2, .slice A8 qs.length c8]
  have hxg := (Nx.refl w6).alloc (.cells #[.int .i64 q0, .int .i64 q1, .int .i64 q2, .slice A8 qs.length c8] 54)
  have zWg : w6.heap.size < (w6.alloc (.cells #[.int .i64 q0, .int .i64 q1, .int .i64 q2, .slice A8 qs.length c8] 54)).heap.size := by simp
  have zhxg := hxg.size; replace bL := bL.nx hxg; replace hS5 := hS5.nx hxg; replace bW := bW.nx hxg; replace hS6 := hS6.nx hxg; replace hS8 := hS8.nx hxg; replace hX := hX.trans hxg
  clear hxg zhxg lltW
  clear l0 l1 l2 l3
  generalize w6.alloc (.cells #[.int .i64 q0, .int .i64 q1, .int .i64 q2, .slice A8 qs.length c8] 54) = W6 at *
  refine (eqSeg_c q0 q1 q2 A8 A5 c8 c5 _ qs _ hS8.sl.row hS5.sl.row (Nat.le_refl _) hy).mono ?_
  rintro e w7 ⟨rfl, hx7⟩
  have zhx7 := hx7.size; replace bL := bL.nx hx7; replace hS5 := hS5.nx hx7; replace bW := bW.nx hx7; replace hS6 := hS6.nx hx7; replace hS8 := hS8.nx hx7; replace bG := bG.nx hx7; replace hX := hX.trans hx7
  go_wp2_with fail
  refine (toIntS_c A2 c2 w.heap.size xs _ (h.below hX (Nat.le_refl _)) hX.size hl).mono ?_
  rintro e w8 ⟨A9, c9, rfl, hS9, hx8⟩
  have zhx8 := hx8.size; replace bL := bL.nx hx8; replace hS5 := hS5.nx hx8; replace bW := bW.nx hx8; replace hS6 := hS6.nx hx8; replace hS8 := hS8.nx hx8; replace bG := bG.nx hx8; replace hX := hX.trans hx8
  go_wp2_with fail
  refine (eqIntS_c A6 A9 c6 c9 _ xs _ hS6.sl.row hS9.row (Nat.le_refl _) hl).mono ?_
  rintro e w9 ⟨rfl, hx9⟩
  have zhx9 := hx9.size; replace bL := bL.nx hx9; replace hS5 := hS5.nx hx9; replace bW := bW.nx hx9; replace hS6 := hS6.nx hx9; replace hS8 := hS8.nx hx9; replace bG := bG.nx hx9; replace hX := hX.trans hx9
  clear hS9
  go_wp2_with fail
  refine (markIntS_c A6 xs.length c6 1 _ _ _ _ hS6 hl (by omega)).mono ?_
  rintro e wc ⟨rfl, hS6b, hr1⟩
  have zhr1 := hr1.size; replace bL := bL.rg hr1 (by omega); replace hS5 := hS5.rg hr1 (by omega); replace bW := bW.rg hr1 (by omega); replace hS8 := hS8.rg hr1 (by omega); replace bG := bG.rg hr1 (by omega); replace hX := Rg.nx_of hX hr1 (by omega)
  clear hS6 hS6b
  obtain ⟨k1, Hk1⟩ : ∃ q, Hid (1 + xs.length = q) := ⟨_, rfl⟩
  have hd2 : decide ((k1 : Int) < 0) = false := by simp
  rw [Hk1.out]
  obtain ⟨l0, l1, l2, l3⟩ := bW.d4
  obtain ⟨m0, m1, m2, m3⟩ := bG.d4
  go_wp2_with fail
  refine (eqSeg_c q0 q1 q2 A8 A5 c8 c5 _ qs _ hS8.sl.row hS5.sl.row (Nat.le_refl _) hy).mono ?_
  rintro e we ⟨rfl, hxe⟩
  have zhxe := hxe.size; replace bL := bL.nx hxe; replace hS5 := hS5.nx hxe; replace bW := bW.nx hxe; replace hS8 := hS8.nx hxe; replace bG := bG.nx hxe; replace hX := hX.trans hxe
  clear l0 l1 l2 l3 m0 m1 m2 m3
  obtain ⟨m0, m1, m2, m3⟩ := bG.d4
  go_wp2_with fail
  refine (markSeg_c q0 q1 q2 A8 qs.length c8 _ _ _ _ hS8 (by omega) hy).mono ?_
  rintro e wf ⟨rfl, hS8b, hr3⟩
  have zhr3 := hr3.size; replace bL := bL.rg hr3 (by omega); replace hS5 := hS5.rg hr3 (by omega); replace bW := bW.rg hr3 (by omega); replace bG := bG.rg hr3 (by omega); replace hX := Rg.nx_of hX hr3 (by omega)
  clear hS8
  clear m0 m1 m2 m3
  obtain ⟨k3, Hk3⟩ : ∃ q, Hid (1 + qs.length * 3 = q) := ⟨_, rfl⟩
  have hd3 : decide ((k3 : Int) < 0) = false := by simp
  rw [Hk3.out]
  obtain ⟨m0, m1, m2, m3⟩ := bG.d4
  go_wp2_with fail
  refine (heldSeg_c q0 q1 q2 A8 qs.length c8 _ _ hS8b.sl.row (Nat.le_refl _) hy).mono ?_
  rintro e wh ⟨rfl, hxh⟩
  rw [Hk3.out]
  have zhxh := hxh.size; replace bL := bL.nx hxh; replace hS5 := hS5.nx hxh; replace bW := bW.nx hxh; replace bG := bG.nx hxh; replace hS8b := hS8b.nx hxh; replace hX := hX.trans hxh
  clear m0 m1 m2 m3
  go_wp2_with fail
  refine merge6 (F := (fun gq Aq cq Wq => Box Wq gq 54 #[.int .i64 q0, .int .i64 q1, .int .i64 q2, .slice Aq qs.length cq] ∧ Sl Wq wh.heap.size Aq 84 (qs.length * 3) (chAt qs) ∧ wh.heap.size ≤ gq ∧ Nx wh Wq)) (G := ?_) (fun key => ?_) ?_
  rotate_left
  · have hXs : Nx wh wh.drew := (Nx.refl wh).drew
    have hXk := hX
    have hX := hXk.drew
    clear hXk
    have zd : wh.heap.size ≤ wh.drew.heap.size := Nat.le_refl _
    have bLk := bL
    have bL : Box wh.drew w.heap.size 51 #[.int .i64 p, .int .i64 b, .int .i64 v, .int .i64 t] := bLk
    clear bLk
    have zbl := bL.lt
    refine wp_region_plan (.t 0 (.t 2 (.b 1 (.b 3 (.b 4 (.t 5 (.t 6 (.t 7 (.c 8 (.c 9 (.t 10 .e)))))) 8 (.c 4 (.t 5 (.t 6 (.t 7 (.c 9 (.t 10 .e))))))) 8 (.c 3 (.c 4 (.t 5 (.t 6 (.t 7 (.c 9 (.t 10 .e)))))))) 8 (.c 1 (.c 3 (.c 4 (.t 5 (.t 6 (.t 7 (.c 9 (.t 10 .e))))))))))) (fun w' => w'.cell? ⟨w.heap.size, 0, none⟩ = some (.int .i64 p) ∧ w'.cell? ⟨w.heap.size, 1, none⟩ = some (.int .i64 b) ∧ w'.cell? ⟨w.heap.size, 2, none⟩ = some (.int .i64 v) ∧ w'.cell? ⟨w.heap.size, 3, none⟩ = some (.int .i64 t)) (by kernel_rfl) (by kernel_rfl) rfl (by kernel_rfl) (fun _ _ d _ _ h => by cases d <;> exact h) (by exact bL.d4) ?_
    simp only [psOf, List.getD_cons_zero, List.getD_cons_succ]
    generalize wh.drew = W0 at *
    repeat (first | (refine HP.take (v := ?_) (by rfl) ?_ ?_; rotate_left; (· (intro w hSw; (try dsimp only at hSw); go_simp; try with_reducible rfl)); (try simp only [Act.put, List.setIfInBounds_toArray, List.set_cons_zero, List.set_cons_succ])) | (refine HP.skip (by rfl) ?_; (try simp only [Act.put, List.setIfInBounds_toArray, List.set_cons_zero, List.set_cons_succ])))
    refine HP.both ?_ ?_
    · refine CallStep.mk (by rfl) (fun K hK => ?_)
      go_simp
      refine (toIntS_c A2 c2 w.heap.size xs _ (h.below hX (Nat.le_refl _)) hX.size hl).mono ?_; rintro e v1 ⟨Ai, ci, rfl, hi, hv1⟩; have zhv1 := hv1.size; replace bL := bL.nx hv1; replace hX := hX.trans hv1; replace hXs := hXs.trans hv1; (try replace bz := bz.nx hv1); (try replace hi := hi.nx hv1); (try replace hS := hS.nx hv1)
      go_wp2_with fail
      refine hK.out _ _ (by exact bL.d4) ?_
      clear hK K
      try simp only [Act.put, List.setIfInBounds_toArray, List.set_cons_zero, List.set_cons_succ]
      refine HP.both ?_ ?_
      · refine CallStep.mk (by rfl) (fun K hK => ?_)
        go_simp
        refine (toFrame_c p b v t _).mono ?_; rintro e v2 ⟨rfl, hv2⟩; have zhv2 := hv2.size; replace bL := bL.nx hv2; replace hX := hX.trans hv2; replace hXs := hXs.trans hv2; (try replace bz := bz.nx hv2); (try replace hi := hi.nx hv2); (try replace hS := hS.nx hv2)
        go_wp2_with fail
        refine hK.out _ _ (by exact bL.d4) ?_
        clear hK K
        try simp only [Act.put, List.setIfInBounds_toArray, List.set_cons_zero, List.set_cons_succ]
        refine HP.both ?_ ?_
        · refine CallStep.mk (by rfl) (fun K hK => ?_)
          go_simp
          refine (implSegOf_c Ai ci _ xs p b v t _ hi.row (Nat.le_refl _) hl).mono ?_; intro e v3 hR; obtain ⟨A9, c9, rfl, hS, hv3⟩ := hR.un Hq.out Hc.out; replace hS := hS.low (lo' := wh.heap.size) (by have := hXs.size; omega); have zhv3 := hv3.size; replace bL := bL.nx hv3; replace hX := hX.trans hv3; replace hXs := hXs.trans hv3; (try replace bz := bz.nx hv3); (try replace hi := hi.nx hv3); (try replace hS := hS.nx hv3)
          go_wp2_with fail
          refine hK.out _ _ (by exact bL.d4) ?_
          clear hK K
          try simp only [Act.put, List.setIfInBounds_toArray, List.set_cons_zero, List.set_cons_succ]
          repeat (first | (refine HP.take (v := ?_) (by rfl) ?_ ?_; rotate_left; (· (intro w hSw; (try dsimp only at hSw); go_simp; try with_reducible rfl)); (try simp only [Act.put, List.setIfInBounds_toArray, List.set_cons_zero, List.set_cons_succ])) | (refine HP.skip (by rfl) ?_; (try simp only [Act.put, List.setIfInBounds_toArray, List.set_cons_zero, List.set_cons_succ])))
          refine HP.call ?_
          have bz := Box.new v3 54 #[.int .i64 0, .int .i64 0, .int .i64 0, .slice none 0 0]
          have hz := (Nx.refl v3).alloc (.cells #[.int .i64 0, .int .i64 0, .int .i64 0, .slice none 0 0] 54)
          have zlt : v3.heap.size < (v3.alloc (.cells #[.int .i64 0, .int .i64 0, .int .i64 0, .slice none 0 0] 54)).heap.size := by simp
          have zhz := hz.size; replace bL := bL.nx hz; replace hX := hX.trans hz; replace hXs := hXs.trans hz; (try replace bz := bz.nx hz); (try replace hi := hi.nx hz); (try replace hS := hS.nx hz)
          refine CallStep.mk (by rfl) (fun K hK => ?_)
          go_simp
          refine hK.out _ _ (by exact bL.d4) ?_
          clear hK K
          try simp only [Act.put, List.setIfInBounds_toArray, List.set_cons_zero, List.set_cons_succ]
          change HP _ _ _ _ _ _ (v3.alloc (.cells #[.int .i64 0, .int .i64 0, .int .i64 0, .slice none 0 0] 54))
          generalize v3.alloc (.cells #[.int .i64 0, .int .i64 0, .int .i64 0, .slice none 0 0] 54) = Wz at *
          generalize v3.heap.size = gz at *
          clear hz
          obtain ⟨rc0, rc1, rc2, rc3⟩ := bz.d4
          have rf0 := bz.frozen 0
          have rf1 := bz.frozen 1
          have rf2 := bz.frozen 2
          have rf3 := bz.frozen 3
          have rlt := bz.lt
          refine HP.call ?_
          refine CallStep.mk (by rfl) (fun K hK => ?_)
          go_simp
          refine hK.out _ _ (by exact ((((bL.far (p := ⟨gz, 0, none⟩) (by simp; omega) (.int .i64 q0)).far (p := ⟨gz, 1, none⟩) (by simp; omega) (.int .i64 q1)).far (p := ⟨gz, 2, none⟩) (by simp; omega) (.int .i64 q2)).far (p := ⟨gz, 3, none⟩) (by simp; omega) (.slice A9 qs.length c9)).d4) ?_
          clear hK K
          try simp only [Act.put, List.setIfInBounds_toArray, List.set_cons_zero, List.set_cons_succ]
          clear rc0 rc1 rc2 rc3 rf0 rf1 rf2 rf3
          repeat (first | (refine HP.take (v := ?_) (by rfl) ?_ ?_; rotate_left; (· (intro w hSw; (try dsimp only at hSw); go_simp; try with_reducible rfl)); (try simp only [Act.put, List.setIfInBounds_toArray, List.set_cons_zero, List.set_cons_succ])) | (refine HP.skip (by rfl) ?_; (try simp only [Act.put, List.setIfInBounds_toArray, List.set_cons_zero, List.set_cons_succ])))
          refine HP.done ?_
          have rq := put4_box bz (.int .i64 q0) (.int .i64 q1) (.int .i64 q2) (.slice A9 qs.length c9)
          have hnf := put4_nx (g := gz) hXs (by omega) (.int .i64 q0) (.int .i64 q1) (.int .i64 q2) (.slice A9 qs.length c9)
          have hSf := hS.put4 bz (by decide) (.int .i64 q0) (.int .i64 q1) (.int .i64 q2) (.slice A9 qs.length c9)
          unfold put4 at rq hnf hSf
          generalize ((((Wz.setCell ⟨gz, 0, none⟩ (.int .i64 q0)).setCell ⟨gz, 1, none⟩ (.int .i64 q1)).setCell ⟨gz, 2, none⟩ (.int .i64 q2)).setCell ⟨gz, 3, none⟩ (.slice A9 qs.length c9)) = Wf at *
          exact key gz A9 c9 Wf Ai ci ⟨rq, hSf, by omega, hnf⟩
        · have bz := Box.new v2 54 #[.int .i64 0, .int .i64 0, .int .i64 0, .slice none 0 0]
          have hz := (Nx.refl v2).alloc (.cells #[.int .i64 0, .int .i64 0, .int .i64 0, .slice none 0 0] 54)
          have zlt : v2.heap.size < (v2.alloc (.cells #[.int .i64 0, .int .i64 0, .int .i64 0, .slice none 0 0] 54)).heap.size := by simp
          have zhz := hz.size; replace bL := bL.nx hz; replace hX := hX.trans hz; replace hXs := hXs.trans hz; (try replace bz := bz.nx hz); (try replace hi := hi.nx hz); (try replace hS := hS.nx hz)
          refine CallStep.mk (by rfl) (fun K hK => ?_)
          go_simp
          refine hK.out _ _ (by exact bL.d4) ?_
          clear hK K
          try simp only [Act.put, List.setIfInBounds_toArray, List.set_cons_zero, List.set_cons_succ]
          change HP _ _ _ _ _ _ (v2.alloc (.cells #[.int .i64 0, .int .i64 0, .int .i64 0, .slice none 0 0] 54))
          generalize v2.alloc (.cells #[.int .i64 0, .int .i64 0, .int .i64 0, .slice none 0 0] 54) = Wz at *
          generalize v2.heap.size = gz at *
          clear hz
          refine HP.call ?_
          refine CallStep.mk (by rfl) (fun K hK => ?_)
          go_simp
          refine (implSegOf_c Ai ci _ xs p b v t _ hi.row (Nat.le_refl _) hl).mono ?_; intro e v3 hR; obtain ⟨A9, c9, rfl, hS, hv3⟩ := hR.un Hq.out Hc.out; replace hS := hS.low (lo' := wh.heap.size) (by have := hXs.size; omega); have zhv3 := hv3.size; replace bL := bL.nx hv3; replace hX := hX.trans hv3; replace hXs := hXs.trans hv3; (try replace bz := bz.nx hv3); (try replace hi := hi.nx hv3); (try replace hS := hS.nx hv3)
          go_wp2_with fail
          refine hK.out _ _ (by exact bL.d4) ?_
          clear hK K
          try simp only [Act.put, List.setIfInBounds_toArray, List.set_cons_zero, List.set_cons_succ]
          repeat (first | (refine HP.take (v := ?_) (by rfl) ?_ ?_; rotate_left; (· (intro w hSw; (try dsimp only at hSw); go_simp; try with_reducible rfl)); (try simp only [Act.put, List.setIfInBounds_toArray, List.set_cons_zero, List.set_cons_succ])) | (refine HP.skip (by rfl) ?_; (try simp only [Act.put, List.setIfInBounds_toArray, List.set_cons_zero, List.set_cons_succ])))
          obtain ⟨rc0, rc1, rc2, rc3⟩ := bz.d4
          have rf0 := bz.frozen 0
          have rf1 := bz.frozen 1
          have rf2 := bz.frozen 2
          have rf3 := bz.frozen 3
          have rlt := bz.lt
          refine HP.call ?_
          refine CallStep.mk (by rfl) (fun K hK => ?_)
          go_simp
          refine hK.out _ _ (by exact ((((bL.far (p := ⟨gz, 0, none⟩) (by simp; omega) (.int .i64 q0)).far (p := ⟨gz, 1, none⟩) (by simp; omega) (.int .i64 q1)).far (p := ⟨gz, 2, none⟩) (by simp; omega) (.int .i64 q2)).far (p := ⟨gz, 3, none⟩) (by simp; omega) (.slice A9 qs.length c9)).d4) ?_
          clear hK K
          try simp only [Act.put, List.setIfInBounds_toArray, List.set_cons_zero, List.set_cons_succ]
          clear rc0 rc1 rc2 rc3 rf0 rf1 rf2 rf3
          repeat (first | (refine HP.take (v := ?_) (by rfl) ?_ ?_; rotate_left; (· (intro w hSw; (try dsimp only at hSw); go_simp; try with_reducible rfl)); (try simp only [Act.put, List.setIfInBounds_toArray, List.set_cons_zero, List.set_cons_succ])) | (refine HP.skip (by rfl) ?_; (try simp only [Act.put, List.setIfInBounds_toArray, List.set_cons_zero, List.set_cons_succ])))
          refine HP.done ?_
          have rq := put4_box bz (.int .i64 q0) (.int .i64 q1) (.int .i64 q2) (.slice A9 qs.length c9)
          have hnf := put4_nx (g := gz) hXs (by omega) (.int .i64 q0) (.int .i64 q1) (.int .i64 q2) (.slice A9 qs.length c9)
          have hSf := hS.put4 bz (by decide) (.int .i64 q0) (.int .i64 q1) (.int .i64 q2) (.slice A9 qs.length c9)
          unfold put4 at rq hnf hSf
          generalize ((((v3.setCell ⟨gz, 0, none⟩ (.int .i64 q0)).setCell ⟨gz, 1, none⟩ (.int .i64 q1)).setCell ⟨gz, 2, none⟩ (.int .i64 q2)).setCell ⟨gz, 3, none⟩ (.slice A9 qs.length c9)) = Wf at *
          exact key gz A9 c9 Wf Ai ci ⟨rq, hSf, by omega, hnf⟩
      · have bz := Box.new v1 54 #[.int .i64 0, .int .i64 0, .int .i64 0, .slice none 0 0]
        have hz := (Nx.refl v1).alloc (.cells #[.int .i64 0, .int .i64 0, .int .i64 0, .slice none 0 0] 54)
        have zlt : v1.heap.size < (v1.alloc (.cells #[.int .i64 0, .int .i64 0, .int .i64 0, .slice none 0 0] 54)).heap.size := by simp
        have zhz := hz.size; replace bL := bL.nx hz; replace hX := hX.trans hz; replace hXs := hXs.trans hz; (try replace bz := bz.nx hz); (try replace hi := hi.nx hz); (try replace hS := hS.nx hz)
        refine CallStep.mk (by rfl) (fun K hK => ?_)
        go_simp
        refine hK.out _ _ (by exact bL.d4) ?_
        clear hK K
        try simp only [Act.put, List.setIfInBounds_toArray, List.set_cons_zero, List.set_cons_succ]
        change HP _ _ _ _ _ _ (v1.alloc (.cells #[.int .i64 0, .int .i64 0, .int .i64 0, .slice none 0 0] 54))
        generalize v1.alloc (.cells #[.int .i64 0, .int .i64 0, .int .i64 0, .slice none 0 0] 54) = Wz at *
        generalize v1.heap.size = gz at *
        clear hz
        refine HP.call ?_
        refine CallStep.mk (by rfl) (fun K hK => ?_)
        go_simp
        refine (toFrame_c p b v t _).mono ?_; rintro e v2 ⟨rfl, hv2⟩; have zhv2 := hv2.size; replace bL := bL.nx hv2; replace hX := hX.trans hv2; replace hXs := hXs.trans hv2; (try replace bz := bz.nx hv2); (try replace hi := hi.nx hv2); (try replace hS := hS.nx hv2)
        go_wp2_with fail
        refine hK.out _ _ (by exact bL.d4) ?_
        clear hK K
        try simp only [Act.put, List.setIfInBounds_toArray, List.set_cons_zero, List.set_cons_succ]
        refine HP.call ?_
        refine CallStep.mk (by rfl) (fun K hK => ?_)
        go_simp
        refine (implSegOf_c Ai ci _ xs p b v t _ hi.row (Nat.le_refl _) hl).mono ?_; intro e v3 hR; obtain ⟨A9, c9, rfl, hS, hv3⟩ := hR.un Hq.out Hc.out; replace hS := hS.low (lo' := wh.heap.size) (by have := hXs.size; omega); have zhv3 := hv3.size; replace bL := bL.nx hv3; replace hX := hX.trans hv3; replace hXs := hXs.trans hv3; (try replace bz := bz.nx hv3); (try replace hi := hi.nx hv3); (try replace hS := hS.nx hv3)
        go_wp2_with fail
        refine hK.out _ _ (by exact bL.d4) ?_
        clear hK K
        try simp only [Act.put, List.setIfInBounds_toArray, List.set_cons_zero, List.set_cons_succ]
        repeat (first | (refine HP.take (v := ?_) (by rfl) ?_ ?_; rotate_left; (· (intro w hSw; (try dsimp only at hSw); go_simp; try with_reducible rfl)); (try simp only [Act.put, List.setIfInBounds_toArray, List.set_cons_zero, List.set_cons_succ])) | (refine HP.skip (by rfl) ?_; (try simp only [Act.put, List.setIfInBounds_toArray, List.set_cons_zero, List.set_cons_succ])))
        obtain ⟨rc0, rc1, rc2, rc3⟩ := bz.d4
        have rf0 := bz.frozen 0
        have rf1 := bz.frozen 1
        have rf2 := bz.frozen 2
        have rf3 := bz.frozen 3
        have rlt := bz.lt
        refine HP.call ?_
        refine CallStep.mk (by rfl) (fun K hK => ?_)
        go_simp
        refine hK.out _ _ (by exact ((((bL.far (p := ⟨gz, 0, none⟩) (by simp; omega) (.int .i64 q0)).far (p := ⟨gz, 1, none⟩) (by simp; omega) (.int .i64 q1)).far (p := ⟨gz, 2, none⟩) (by simp; omega) (.int .i64 q2)).far (p := ⟨gz, 3, none⟩) (by simp; omega) (.slice A9 qs.length c9)).d4) ?_
        clear hK K
        try simp only [Act.put, List.setIfInBounds_toArray, List.set_cons_zero, List.set_cons_succ]
        clear rc0 rc1 rc2 rc3 rf0 rf1 rf2 rf3
        repeat (first | (refine HP.take (v := ?_) (by rfl) ?_ ?_; rotate_left; (· (intro w hSw; (try dsimp only at hSw); go_simp; try with_reducible rfl)); (try simp only [Act.put, List.setIfInBounds_toArray, List.set_cons_zero, List.set_cons_succ])) | (refine HP.skip (by rfl) ?_; (try simp only [Act.put, List.setIfInBounds_toArray, List.set_cons_zero, List.set_cons_succ])))
        refine HP.done ?_
        have rq := put4_box bz (.int .i64 q0) (.int .i64 q1) (.int .i64 q2) (.slice A9 qs.length c9)
        have hnf := put4_nx (g := gz) hXs (by omega) (.int .i64 q0) (.int .i64 q1) (.int .i64 q2) (.slice A9 qs.length c9)
        have hSf := hS.put4 bz (by decide) (.int .i64 q0) (.int .i64 q1) (.int .i64 q2) (.slice A9 qs.length c9)
        unfold put4 at rq hnf hSf
        generalize ((((v3.setCell ⟨gz, 0, none⟩ (.int .i64 q0)).setCell ⟨gz, 1, none⟩ (.int .i64 q1)).setCell ⟨gz, 2, none⟩ (.int .i64 q2)).setCell ⟨gz, 3, none⟩ (.slice A9 qs.length c9)) = Wf at *
        exact key gz A9 c9 Wf Ai ci ⟨rq, hSf, by omega, hnf⟩
    · have bz := Box.new W0 54 #[.int .i64 0, .int .i64 0, .int .i64 0, .slice none 0 0]
      have hz := (Nx.refl W0).alloc (.cells #[.int .i64 0, .int .i64 0, .int .i64 0, .slice none 0 0] 54)
      have zlt : W0.heap.size < (W0.alloc (.cells #[.int .i64 0, .int .i64 0, .int .i64 0, .slice none 0 0] 54)).heap.size := by simp
      have zhz := hz.size; replace bL := bL.nx hz; replace hX := hX.trans hz; replace hXs := hXs.trans hz; (try replace bz := bz.nx hz); (try replace hi := hi.nx hz); (try replace hS := hS.nx hz)
      refine CallStep.mk (by rfl) (fun K hK => ?_)
      go_simp
      refine hK.out _ _ (by exact bL.d4) ?_
      clear hK K
      try simp only [Act.put, List.setIfInBounds_toArray, List.set_cons_zero, List.set_cons_succ]
      change HP _ _ _ _ _ _ (W0.alloc (.cells #[.int .i64 0, .int .i64 0, .int .i64 0, .slice none 0 0] 54))
      generalize W0.alloc (.cells #[.int .i64 0, .int .i64 0, .int .i64 0, .slice none 0 0] 54) = Wz at *
      generalize W0.heap.size = gz at *
      clear hz
      refine HP.call ?_
      refine CallStep.mk (by rfl) (fun K hK => ?_)
      go_simp
      refine (toIntS_c A2 c2 w.heap.size xs _ (h.below hX (Nat.le_refl _)) hX.size hl).mono ?_; rintro e v1 ⟨Ai, ci, rfl, hi, hv1⟩; have zhv1 := hv1.size; replace bL := bL.nx hv1; replace hX := hX.trans hv1; replace hXs := hXs.trans hv1; (try replace bz := bz.nx hv1); (try replace hi := hi.nx hv1); (try replace hS := hS.nx hv1)
      go_wp2_with fail
      refine hK.out _ _ (by exact bL.d4) ?_
      clear hK K
      try simp only [Act.put, List.setIfInBounds_toArray, List.set_cons_zero, List.set_cons_succ]
      refine HP.call ?_
      refine CallStep.mk (by rfl) (fun K hK => ?_)
      go_simp
      refine (toFrame_c p b v t _).mono ?_; rintro e v2 ⟨rfl, hv2⟩; have zhv2 := hv2.size; replace bL := bL.nx hv2; replace hX := hX.trans hv2; replace hXs := hXs.trans hv2; (try replace bz := bz.nx hv2); (try replace hi := hi.nx hv2); (try replace hS := hS.nx hv2)
      go_wp2_with fail
      refine hK.out _ _ (by exact bL.d4) ?_
      clear hK K
      try simp only [Act.put, List.setIfInBounds_toArray, List.set_cons_zero, List.set_cons_succ]
      refine HP.call ?_
      refine CallStep.mk (by rfl) (fun K hK => ?_)
      go_simp
      refine (implSegOf_c Ai ci _ xs p b v t _ hi.row (Nat.le_refl _) hl).mono ?_; intro e v3 hR; obtain ⟨A9, c9, rfl, hS, hv3⟩ := hR.un Hq.out Hc.out; replace hS := hS.low (lo' := wh.heap.size) (by have := hXs.size; omega); have zhv3 := hv3.size; replace bL := bL.nx hv3; replace hX := hX.trans hv3; replace hXs := hXs.trans hv3; (try replace bz := bz.nx hv3); (try replace hi := hi.nx hv3); (try replace hS := hS.nx hv3)
      go_wp2_with fail
      refine hK.out _ _ (by exact bL.d4) ?_
      clear hK K
      try simp only [Act.put, List.setIfInBounds_toArray, List.set_cons_zero, List.set_cons_succ]
      repeat (first | (refine HP.take (v := ?_) (by rfl) ?_ ?_; rotate_left; (· (intro w hSw; (try dsimp only at hSw); go_simp; try with_reducible rfl)); (try simp only [Act.put, List.setIfInBounds_toArray, List.set_cons_zero, List.set_cons_succ])) | (refine HP.skip (by rfl) ?_; (try simp only [Act.put, List.setIfInBounds_toArray, List.set_cons_zero, List.set_cons_succ])))
      obtain ⟨rc0, rc1, rc2, rc3⟩ := bz.d4
      have rf0 := bz.frozen 0
      have rf1 := bz.frozen 1
      have rf2 := bz.frozen 2
      have rf3 := bz.frozen 3
      have rlt := bz.lt
      refine HP.call ?_
      refine CallStep.mk (by rfl) (fun K hK => ?_)
      go_simp
      refine hK.out _ _ (by exact ((((bL.far (p := ⟨gz, 0, none⟩) (by simp; omega) (.int .i64 q0)).far (p := ⟨gz, 1, none⟩) (by simp; omega) (.int .i64 q1)).far (p := ⟨gz, 2, none⟩) (by simp; omega) (.int .i64 q2)).far (p := ⟨gz, 3, none⟩) (by simp; omega) (.slice A9 qs.length c9)).d4) ?_
      clear hK K
      try simp only [Act.put, List.setIfInBounds_toArray, List.set_cons_zero, List.set_cons_succ]
      clear rc0 rc1 rc2 rc3 rf0 rf1 rf2 rf3
      repeat (first | (refine HP.take (v := ?_) (by rfl) ?_ ?_; rotate_left; (· (intro w hSw; (try dsimp only at hSw); go_simp; try with_reducible rfl)); (try simp only [Act.put, List.setIfInBounds_toArray, List.set_cons_zero, List.set_cons_succ])) | (refine HP.skip (by rfl) ?_; (try simp only [Act.put, List.setIfInBounds_toArray, List.set_cons_zero, List.set_cons_succ])))
      refine HP.done ?_
      have rq := put4_box bz (.int .i64 q0) (.int .i64 q1) (.int .i64 q2) (.slice A9 qs.length c9)
      have hnf := put4_nx (g := gz) hXs (by omega) (.int .i64 q0) (.int .i64 q1) (.int .i64 q2) (.slice A9 qs.length c9)
      have hSf := hS.put4 bz (by decide) (.int .i64 q0) (.int .i64 q1) (.int .i64 q2) (.slice A9 qs.length c9)
      unfold put4 at rq hnf hSf
      generalize ((((v3.setCell ⟨gz, 0, none⟩ (.int .i64 q0)).setCell ⟨gz, 1, none⟩ (.int .i64 q1)).setCell ⟨gz, 2, none⟩ (.int .i64 q2)).setCell ⟨gz, 3, none⟩ (.slice A9 qs.length c9)) = Wf at *
      exact key gz A9 c9 Wf Ai ci ⟨rq, hSf, by omega, hnf⟩
  intro gH A15 c15 W15 Ai15 ci15 ⟨bH, hS15, hgH, hxr15⟩
  have zb15 := bH.lt
  have zhxr15 := hxr15.size; replace bL := bL.nx hxr15; replace hS5 := hS5.nx hxr15; replace bW := bW.nx hxr15; replace bG := bG.nx hxr15; replace hS8b := hS8b.nx hxr15; replace hX := hX.trans hxr15
  replace hS15 := hS15.sr
  clear hxr15
  obtain ⟨l0, l1, l2, l3⟩ := bW.d4
  obtain ⟨m0, m1, m2, m3⟩ := bH.d4
  go_wp2_with fail
  refine (eqSeg_c q0 q1 q2 A15 A5 c15 c5 _ qs _ hS15.sl.row hS5.sl.row (Nat.le_refl _) hy).mono ?_
  rintro e wg ⟨rfl, hxg⟩
  have zhxg := hxg.size; replace bL := bL.nx hxg; replace hS5 := hS5.nx hxg; replace bW := bW.nx hxg; replace bG := bG.nx hxg; replace hS8b := hS8b.nx hxg; replace hS15 := hS15.nx hxg; replace bH := bH.nx hxg; replace hX := hX.trans hxg
  clear l0 l1 l2 l3 m0 m1 m2 m3
  obtain ⟨m0, m1, m2, m3⟩ := bG.d4
  go_wp2_with fail
  refine (heldSeg_c q0 q1 q2 A8 qs.length c8 _ _ hS8b.sl.row (Nat.le_refl _) hy).mono ?_
  rintro e wi ⟨rfl, hxi⟩
  rw [Hk3.out]
  have zhxi := hxi.size; replace bL := bL.nx hxi; replace hS5 := hS5.nx hxi; replace bW := bW.nx hxi; replace bG := bG.nx hxi; replace hS8b := hS8b.nx hxi; replace hS15 := hS15.nx hxi; replace bH := bH.nx hxi; replace hX := hX.trans hxi
  go_wp2
  go_ret
  exact ⟨rfl, hX⟩
end Go.Proofs.Ytihpadelfpogmaa
