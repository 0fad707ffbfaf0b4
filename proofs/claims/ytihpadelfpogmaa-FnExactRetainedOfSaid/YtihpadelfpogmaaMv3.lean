/-
  Texts of the proof, put together in their order: Lso, Src, Op8, Drf, Rwi, Cnd, Cne, Atp.
  Conditions: those of each.
-/
import Derived.Test.YtihpadelfpogmaaMv2
import Derived.Deep.QuietTactic
import Derived.BigQuiet
import Derived.Deep.Slices
import Derived.ChangeSame
import Derived.StillTailTactics
import Derived.IntWalk
import Derived.Deep.RegionHeld
import Derived.Outline
/- The walk of the law FnExactSegOf. Conditions: the list that comes in can be read. -/
namespace Go.Proofs.Ytihpadelfpogmaa
set_option linter.unusedVariables false
set_option maxRecDepth 100000
open Go.RowKit
theorem RetSC.un {w w' : World} {q : Sg4} {cd cd' : Int} {e : Ending} {q0 q1 q2 : Int} {qs : List Chg} (h : RetSC w q cd e w') (hq : q = (q0, q1, q2, qs)) (hc : cd = cd') :
    ∃ (A : Option Addr) (c : Nat), e = .returned (.tuple #[.agg #[.int .i64 q0, .int .i64 q1, .int .i64 q2, .slice A qs.length c], .int .i64 cd']) ∧ Sl w' w.heap.size A 84 (qs.length * 3) (chAt qs) ∧ Nx w w' := by
  subst hq hc
  exact h
theorem merge6 {G : Nat → Option Addr → Nat → World → Option Addr → Nat → Prop} {F : Nat → Option Addr → Nat → World → Prop} {R : Prop} (main : (∀ g A c W Ai ci, F g A c W → G g A c W Ai ci) → R) (key : ∀ g A c W Ai ci, F g A c W → G g A c W Ai ci) : R := main key
theorem Sl.put4 {u : World} {lo g m : Nat} {A : Option Addr} {t t' : TypeId} {f : Nat → Value} {a b c d : Value} (h : Sl u lo A t m f) (hb : Box u g t' #[a, b, c, d]) (ht : t' ≠ t) (v0 v1 v2 v3 : Value) : Sl (put4 u g v0 v1 v2 v3) lo A t m f :=
  (((h.far_ty (p := ⟨g, 0, none⟩) hb ht v0).far_ty (p := ⟨g, 1, none⟩) (hb.set 0 v0) ht v1).far_ty (p := ⟨g, 2, none⟩) ((hb.set 0 v0).set 1 v1) ht v2).far_ty (p := ⟨g, 3, none⟩) (((hb.set 0 v0).set 1 v1).set 2 v2) ht v3
theorem sgOf_len (xs : List Int) (p b v t : Int) : (sgOf xs p b v t).2.2.2.length ≤ 1 := by
  unfold sgOf
  split
  · exact Nat.le_refl _
  · exact Nat.zero_le _
set_option maxRecDepth 100000 in
set_option maxHeartbeats 8000000 in
theorem lawSegOf (A2 : Option Addr) (c2 : Nat) (xs : List Int) (p b v t : Int) (w : World) (h : Ins w w.heap.size A2 xs) (hw : ∀ k, k < xs.length → (Lit.int .i64 (xs.getD k 0)).wf = true) (hn : xs.length ≤ 2 ^ 63 - 1) :
    Calls Try.prog 8 #[.slice A2 xs.length c2, .agg #[.int .i64 p, .int .i64 b, .int .i64 v, .int .i64 t]] w fun e w' => e = .returned (.bool true) ∧ Nx w w' := by
  clear hw hn
  by_cases hl : xs.length ≤ 1048576
  case neg =>
    have hd : decide (1048576 < (xs.length : Int)) = true := by simp; omega
    go_enter Try.func8, Try.ntmps8
    go_wp2
    go_ret
    exact ⟨rfl, (Nx.refl _).alloc _⟩
  have hd : decide (1048576 < (xs.length : Int)) = false := by simp; omega
  obtain ⟨⟨q0, q1, q2, qs⟩, Hq⟩ : ∃ y, Hid (sgOf xs p b v t = y) := ⟨_, rfl⟩
  obtain ⟨cd, Hc⟩ : ∃ y, Hid (askC xs (frameB p b v t) = y) := ⟨_, rfl⟩
  have hy : qs.length ≤ 1048576 := by have := sgOf_len xs p b v t; rw [Hq.out] at this; exact Nat.le_trans this (by decide)
  go_enter Try.func8, Try.ntmps8
  go_wp2_with fail
  have bL := Box.new w 51 #[.int .i64 p, .int .i64 b, .int .i64 v, .int .i64 t]
  have hX := (Nx.refl w).alloc (.cells #[.int .i64 p, .int .i64 b, .int .i64 v, .int .i64 t] 51)
  have zb := bL.lt
  generalize w.alloc (.cells #[.int .i64 p, .int .i64 b, .int .i64 v, .int .i64 t] 51) = W at *
  refine merge6 (F := (fun gq Aq cq Wq => Box Wq gq 54 #[.int .i64 q0, .int .i64 q1, .int .i64 q2, .slice Aq qs.length cq] ∧ Sl Wq W.heap.size Aq 84 (qs.length * 3) (chAt qs) ∧ W.heap.size ≤ gq ∧ Nx W Wq)) (G := ?_) (fun key => ?_) ?_
  rotate_left
  · have hXs : Nx W W.drew := (Nx.refl W).drew
    have hXk := hX
    have hX := hXk.drew
    clear hXk
    have zd : W.heap.size ≤ W.drew.heap.size := Nat.le_refl _
    have bLk := bL
    have bL : Box W.drew w.heap.size 51 #[.int .i64 p, .int .i64 b, .int .i64 v, .int .i64 t] := bLk
    clear bLk
    have zbl := bL.lt
    refine wp_region_plan (.t 0 (.t 2 (.b 1 (.b 3 (.b 4 (.t 5 (.t 6 (.t 7 (.c 8 (.c 9 (.t 10 .e)))))) 8 (.c 4 (.t 5 (.t 6 (.t 7 (.c 9 (.t 10 .e))))))) 8 (.c 3 (.c 4 (.t 5 (.t 6 (.t 7 (.c 9 (.t 10 .e)))))))) 8 (.c 1 (.c 3 (.c 4 (.t 5 (.t 6 (.t 7 (.c 9 (.t 10 .e))))))))))) (fun w' => w'.cell? ⟨w.heap.size, 0, none⟩ = some (.int .i64 p) ∧ w'.cell? ⟨w.heap.size, 1, none⟩ = some (.int .i64 b) ∧ w'.cell? ⟨w.heap.size, 2, none⟩ = some (.int .i64 v) ∧ w'.cell? ⟨w.heap.size, 3, none⟩ = some (.int .i64 t)) (by kernel_rfl) (by kernel_rfl) rfl (by kernel_rfl) (fun _ _ d _ _ h => by cases d <;> exact h) (by exact bL.d4) ?_
    simp only [psOf, List.getD_cons_zero, List.getD_cons_succ]
    generalize W.drew = W0 at *
    repeat (first | (refine HP.take (v := ?_) (by rfl) ?_ ?_; rotate_left; (· (intro w hSw; (try dsimp only at hSw); go_simp; try with_reducible rfl)); (try simp only [Act.put, List.setIfInBounds_toArray, List.set_cons_zero, List.set_cons_succ])) | (refine HP.skip (by rfl) ?_; (try simp only [Act.put, List.setIfInBounds_toArray, List.set_cons_zero, List.set_cons_succ])))
    refine HP.both ?_ ?_
    · refine CallStep.mk (by rfl) (fun K hK => ?_)
      go_simp
      refine (toIntS_c A2 c2 w.heap.size xs _ (h.below hX (Nat.le_refl _)) hX.size hl).mono ?_; rintro e v1 ⟨Ai, ci, rfl, hi, hv1⟩; have zhv1 := hv1.size; replace bL := bL.nx hv1; replace hX := hX.trans hv1; replace hXs := hXs.trans hv1; (try replace bz := bz.nx hv1); (try replace hi := hi.nx hv1); (try replace hS := hS.nx hv1)
      go_wp2_with fail
      refine hK.out _ _ (by exact bL.d4) ?_
      clear hK K
      try simp only [Act.put, List.setIfInBounds_toArray, List.set_cons_zero, List.set_cons_succ]
      refine HP.both ?_ ?_
      · refine CallStep.mk (by rfl) (fun K hK => ?_)
        go_simp
        refine (toFrame_c p b v t _).mono ?_; rintro e v2 ⟨rfl, hv2⟩; have zhv2 := hv2.size; replace bL := bL.nx hv2; replace hX := hX.trans hv2; replace hXs := hXs.trans hv2; (try replace bz := bz.nx hv2); (try replace hi := hi.nx hv2); (try replace hS := hS.nx hv2)
        go_wp2_with fail
        refine hK.out _ _ (by exact bL.d4) ?_
        clear hK K
        try simp only [Act.put, List.setIfInBounds_toArray, List.set_cons_zero, List.set_cons_succ]
        refine HP.both ?_ ?_
        · refine CallStep.mk (by rfl) (fun K hK => ?_)
          go_simp
          refine (specSegOf_c Ai ci _ xs p b v t _ hi.row (Nat.le_refl _) hl).mono ?_; intro e v3 hR; obtain ⟨A9, c9, rfl, hS, hv3⟩ := hR.un Hq.out Hc.out; replace hS := hS.low (lo' := W.heap.size) (by have := hXs.size; omega); have zhv3 := hv3.size; replace bL := bL.nx hv3; replace hX := hX.trans hv3; replace hXs := hXs.trans hv3; (try replace bz := bz.nx hv3); (try replace hi := hi.nx hv3); (try replace hS := hS.nx hv3)
          go_wp2_with fail
          refine hK.out _ _ (by exact bL.d4) ?_
          clear hK K
          try simp only [Act.put, List.setIfInBounds_toArray, List.set_cons_zero, List.set_cons_succ]
          repeat (first | (refine HP.take (v := ?_) (by rfl) ?_ ?_; rotate_left; (· (intro w hSw; (try dsimp only at hSw); go_simp; try with_reducible rfl)); (try simp only [Act.put, List.setIfInBounds_toArray, List.set_cons_zero, List.set_cons_succ])) | (refine HP.skip (by rfl) ?_; (try simp only [Act.put, List.setIfInBounds_toArray, List.set_cons_zero, List.set_cons_succ])))
          refine HP.call ?_
          have bz := Box.new v3 54 #[.int .i64 0, .int .i64 0, .int .i64 0, .slice none 0 0]
          have hz := (Nx.refl v3).alloc (.cells #[.int .i64 0, .int .i64 0, .int .i64 0, .slice none 0 0] 54)
          have zlt : v3.heap.size < (v3.alloc (.cells #[.int .i64 0, .int .i64 0, .int .i64 0, .slice none 0 0] 54)).heap.size := by simp
          have zhz := hz.size; replace bL := bL.nx hz; replace hX := hX.trans hz; replace hXs := hXs.trans hz; (try replace bz := bz.nx hz); (try replace hi := hi.nx hz); (try replace hS := hS.nx hz)
          refine CallStep.mk (by rfl) (fun K hK => ?_)
          go_simp
          refine hK.out _ _ (by exact bL.d4) ?_
          clear hK K
          try simp only [Act.put, List.setIfInBounds_toArray, List.set_cons_zero, List.set_cons_succ]
          change HP _ _ _ _ _ _ (v3.alloc (.cells #[.int .i64 0, .int .i64 0, .int .i64 0, .slice none 0 0] 54))
          generalize v3.alloc (.cells #[.int .i64 0, .int .i64 0, .int .i64 0, .slice none 0 0] 54) = Wz at *
          generalize v3.heap.size = gz at *
          clear hz
          obtain ⟨rc0, rc1, rc2, rc3⟩ := bz.d4
          have rf0 := bz.frozen 0
          have rf1 := bz.frozen 1
          have rf2 := bz.frozen 2
          have rf3 := bz.frozen 3
          have rlt := bz.lt
          refine HP.call ?_
          refine CallStep.mk (by rfl) (fun K hK => ?_)
          go_simp
          refine hK.out _ _ (by exact ((((bL.far (p := ⟨gz, 0, none⟩) (by simp; omega) (.int .i64 q0)).far (p := ⟨gz, 1, none⟩) (by simp; omega) (.int .i64 q1)).far (p := ⟨gz, 2, none⟩) (by simp; omega) (.int .i64 q2)).far (p := ⟨gz, 3, none⟩) (by simp; omega) (.slice A9 qs.length c9)).d4) ?_
          clear hK K
          try simp only [Act.put, List.setIfInBounds_toArray, List.set_cons_zero, List.set_cons_succ]
          clear rc0 rc1 rc2 rc3 rf0 rf1 rf2 rf3
          repeat (first | (refine HP.take (v := ?_) (by rfl) ?_ ?_; rotate_left; (· (intro w hSw; (try dsimp only at hSw); go_simp; try with_reducible rfl)); (try simp only [Act.put, List.setIfInBounds_toArray, List.set_cons_zero, List.set_cons_succ])) | (refine HP.skip (by rfl) ?_; (try simp only [Act.put, List.setIfInBounds_toArray, List.set_cons_zero, List.set_cons_succ])))
          refine HP.done ?_
          have rq := put4_box bz (.int .i64 q0) (.int .i64 q1) (.int .i64 q2) (.slice A9 qs.length c9)
          have hnf := put4_nx (g := gz) hXs (by omega) (.int .i64 q0) (.int .i64 q1) (.int .i64 q2) (.slice A9 qs.length c9)
          have hSf := hS.put4 bz (by decide) (.int .i64 q0) (.int .i64 q1) (.int .i64 q2) (.slice A9 qs.length c9)
          unfold put4 at rq hnf hSf
          generalize ((((Wz.setCell ⟨gz, 0, none⟩ (.int .i64 q0)).setCell ⟨gz, 1, none⟩ (.int .i64 q1)).setCell ⟨gz, 2, none⟩ (.int .i64 q2)).setCell ⟨gz, 3, none⟩ (.slice A9 qs.length c9)) = Wf at *
          exact key gz A9 c9 Wf Ai ci ⟨rq, hSf, by omega, hnf⟩
        · have bz := Box.new v2 54 #[.int .i64 0, .int .i64 0, .int .i64 0, .slice none 0 0]
          have hz := (Nx.refl v2).alloc (.cells #[.int .i64 0, .int .i64 0, .int .i64 0, .slice none 0 0] 54)
          have zlt : v2.heap.size < (v2.alloc (.cells #[.int .i64 0, .int .i64 0, .int .i64 0, .slice none 0 0] 54)).heap.size := by simp
          have zhz := hz.size; replace bL := bL.nx hz; replace hX := hX.trans hz; replace hXs := hXs.trans hz; (try replace bz := bz.nx hz); (try replace hi := hi.nx hz); (try replace hS := hS.nx hz)
          refine CallStep.mk (by rfl) (fun K hK => ?_)
          go_simp
          refine hK.out _ _ (by exact bL.d4) ?_
          clear hK K
          try simp only [Act.put, List.setIfInBounds_toArray, List.set_cons_zero, List.set_cons_succ]
          change HP _ _ _ _ _ _ (v2.alloc (.cells #[.int .i64 0, .int .i64 0, .int .i64 0, .slice none 0 0] 54))
          generalize v2.alloc (.cells #[.int .i64 0, .int .i64 0, .int .i64 0, .slice none 0 0] 54) = Wz at *
          generalize v2.heap.size = gz at *
          clear hz
          refine HP.call ?_
          refine CallStep.mk (by rfl) (fun K hK => ?_)
          go_simp
          refine (specSegOf_c Ai ci _ xs p b v t _ hi.row (Nat.le_refl _) hl).mono ?_; intro e v3 hR; obtain ⟨A9, c9, rfl, hS, hv3⟩ := hR.un Hq.out Hc.out; replace hS := hS.low (lo' := W.heap.size) (by have := hXs.size; omega); have zhv3 := hv3.size; replace bL := bL.nx hv3; replace hX := hX.trans hv3; replace hXs := hXs.trans hv3; (try replace bz := bz.nx hv3); (try replace hi := hi.nx hv3); (try replace hS := hS.nx hv3)
          go_wp2_with fail
          refine hK.out _ _ (by exact bL.d4) ?_
          clear hK K
          try simp only [Act.put, List.setIfInBounds_toArray, List.set_cons_zero, List.set_cons_succ]
          repeat (first | (refine HP.take (v := ?_) (by rfl) ?_ ?_; rotate_left; (· (intro w hSw; (try dsimp only at hSw); go_simp; try with_reducible rfl)); (try simp only [Act.put, List.setIfInBounds_toArray, List.set_cons_zero, List.set_cons_succ])) | (refine HP.skip (by rfl) ?_; (try simp only [Act.put, List.setIfInBounds_toArray, List.set_cons_zero, List.set_cons_succ])))
          obtain ⟨rc0, rc1, rc2, rc3⟩ := bz.d4
          have rf0 := bz.frozen 0
          have rf1 := bz.frozen 1
          have rf2 := bz.frozen 2
          have rf3 := bz.frozen 3
          have rlt := bz.lt
          refine HP.call ?_
          refine CallStep.mk (by rfl) (fun K hK => ?_)
          go_simp
          refine hK.out _ _ (by exact ((((bL.far (p := ⟨gz, 0, none⟩) (by simp; omega) (.int .i64 q0)).far (p := ⟨gz, 1, none⟩) (by simp; omega) (.int .i64 q1)).far (p := ⟨gz, 2, none⟩) (by simp; omega) (.int .i64 q2)).far (p := ⟨gz, 3, none⟩) (by simp; omega) (.slice A9 qs.length c9)).d4) ?_
          clear hK K
          try simp only [Act.put, List.setIfInBounds_toArray, List.set_cons_zero, List.set_cons_succ]
          clear rc0 rc1 rc2 rc3 rf0 rf1 rf2 rf3
          repeat (first | (refine HP.take (v := ?_) (by rfl) ?_ ?_; rotate_left; (· (intro w hSw; (try dsimp only at hSw); go_simp; try with_reducible rfl)); (try simp only [Act.put, List.setIfInBounds_toArray, List.set_cons_zero, List.set_cons_succ])) | (refine HP.skip (by rfl) ?_; (try simp only [Act.put, List.setIfInBounds_toArray, List.set_cons_zero, List.set_cons_succ])))
          refine HP.done ?_
          have rq := put4_box bz (.int .i64 q0) (.int .i64 q1) (.int .i64 q2) (.slice A9 qs.length c9)
          have hnf := put4_nx (g := gz) hXs (by omega) (.int .i64 q0) (.int .i64 q1) (.int .i64 q2) (.slice A9 qs.length c9)
          have hSf := hS.put4 bz (by decide) (.int .i64 q0) (.int .i64 q1) (.int .i64 q2) (.slice A9 qs.length c9)
          unfold put4 at rq hnf hSf
          generalize ((((v3.setCell ⟨gz, 0, none⟩ (.int .i64 q0)).setCell ⟨gz, 1, none⟩ (.int .i64 q1)).setCell ⟨gz, 2, none⟩ (.int .i64 q2)).setCell ⟨gz, 3, none⟩ (.slice A9 qs.length c9)) = Wf at *
          exact key gz A9 c9 Wf Ai ci ⟨rq, hSf, by omega, hnf⟩
      · have bz := Box.new v1 54 #[.int .i64 0, .int .i64 0, .int .i64 0, .slice none 0 0]
        have hz := (Nx.refl v1).alloc (.cells #[.int .i64 0, .int .i64 0, .int .i64 0, .slice none 0 0] 54)
        have zlt : v1.heap.size < (v1.alloc (.cells #[.int .i64 0, .int .i64 0, .int .i64 0, .slice none 0 0] 54)).heap.size := by simp
        have zhz := hz.size; replace bL := bL.nx hz; replace hX := hX.trans hz; replace hXs := hXs.trans hz; (try replace bz := bz.nx hz); (try replace hi := hi.nx hz); (try replace hS := hS.nx hz)
        refine CallStep.mk (by rfl) (fun K hK => ?_)
        go_simp
        refine hK.out _ _ (by exact bL.d4) ?_
        clear hK K
        try simp only [Act.put, List.setIfInBounds_toArray, List.set_cons_zero, List.set_cons_succ]
        change HP _ _ _ _ _ _ (v1.alloc (.cells #[.int .i64 0, .int .i64 0, .int .i64 0, .slice none 0 0] 54))
        generalize v1.alloc (.cells #[.int .i64 0, .int .i64 0, .int .i64 0, .slice none 0 0] 54) = Wz at *
        generalize v1.heap.size = gz at *
        clear hz
        refine HP.call ?_
        refine CallStep.mk (by rfl) (fun K hK => ?_)
        go_simp
        refine (toFrame_c p b v t _).mono ?_; rintro e v2 ⟨rfl, hv2⟩; have zhv2 := hv2.size; replace bL := bL.nx hv2; replace hX := hX.trans hv2; replace hXs := hXs.trans hv2; (try replace bz := bz.nx hv2); (try replace hi := hi.nx hv2); (try replace hS := hS.nx hv2)
        go_wp2_with fail
        refine hK.out _ _ (by exact bL.d4) ?_
        clear hK K
        try simp only [Act.put, List.setIfInBounds_toArray, List.set_cons_zero, List.set_cons_succ]
        refine HP.call ?_
        refine CallStep.mk (by rfl) (fun K hK => ?_)
        go_simp
        refine (specSegOf_c Ai ci _ xs p b v t _ hi.row (Nat.le_refl _) hl).mono ?_; intro e v3 hR; obtain ⟨A9, c9, rfl, hS, hv3⟩ := hR.un Hq.out Hc.out; replace hS := hS.low (lo' := W.heap.size) (by have := hXs.size; omega); have zhv3 := hv3.size; replace bL := bL.nx hv3; replace hX := hX.trans hv3; replace hXs := hXs.trans hv3; (try replace bz := bz.nx hv3); (try replace hi := hi.nx hv3); (try replace hS := hS.nx hv3)
        go_wp2_with fail
        refine hK.out _ _ (by exact bL.d4) ?_
        clear hK K
        try simp only [Act.put, List.setIfInBounds_toArray, List.set_cons_zero, List.set_cons_succ]
        repeat (first | (refine HP.take (v := ?_) (by rfl) ?_ ?_; rotate_left; (· (intro w hSw; (try dsimp only at hSw); go_simp; try with_reducible rfl)); (try simp only [Act.put, List.setIfInBounds_toArray, List.set_cons_zero, List.set_cons_succ])) | (refine HP.skip (by rfl) ?_; (try simp only [Act.put, List.setIfInBounds_toArray, List.set_cons_zero, List.set_cons_succ])))
        obtain ⟨rc0, rc1, rc2, rc3⟩ := bz.d4
        have rf0 := bz.frozen 0
        have rf1 := bz.frozen 1
        have rf2 := bz.frozen 2
        have rf3 := bz.frozen 3
        have rlt := bz.lt
        refine HP.call ?_
        refine CallStep.mk (by rfl) (fun K hK => ?_)
        go_simp
        refine hK.out _ _ (by exact ((((bL.far (p := ⟨gz, 0, none⟩) (by simp; omega) (.int .i64 q0)).far (p := ⟨gz, 1, none⟩) (by simp; omega) (.int .i64 q1)).far (p := ⟨gz, 2, none⟩) (by simp; omega) (.int .i64 q2)).far (p := ⟨gz, 3, none⟩) (by simp; omega) (.slice A9 qs.length c9)).d4) ?_
        clear hK K
        try simp only [Act.put, List.setIfInBounds_toArray, List.set_cons_zero, List.set_cons_succ]
        clear rc0 rc1 rc2 rc3 rf0 rf1 rf2 rf3
        repeat (first | (refine HP.take (v := ?_) (by rfl) ?_ ?_; rotate_left; (· (intro w hSw; (try dsimp only at hSw); go_simp; try with_reducible rfl)); (try simp only [Act.put, List.setIfInBounds_toArray, List.set_cons_zero, List.set_cons_succ])) | (refine HP.skip (by rfl) ?_; (try simp only [Act.put, List.setIfInBounds_toArray, List.set_cons_zero, List.set_cons_succ])))
        refine HP.done ?_
        have rq := put4_box bz (.int .i64 q0) (.int .i64 q1) (.int .i64 q2) (.slice A9 qs.length c9)
        have hnf := put4_nx (g := gz) hXs (by omega) (.int .i64 q0) (.int .i64 q1) (.int .i64 q2) (.slice A9 qs.length c9)
        have hSf := hS.put4 bz (by decide) (.int .i64 q0) (.int .i64 q1) (.int .i64 q2) (.slice A9 qs.length c9)
        unfold put4 at rq hnf hSf
        generalize ((((v3.setCell ⟨gz, 0, none⟩ (.int .i64 q0)).setCell ⟨gz, 1, none⟩ (.int .i64 q1)).setCell ⟨gz, 2, none⟩ (.int .i64 q2)).setCell ⟨gz, 3, none⟩ (.slice A9 qs.length c9)) = Wf at *
        exact key gz A9 c9 Wf Ai ci ⟨rq, hSf, by omega, hnf⟩
    · have bz := Box.new W0 54 #[.int .i64 0, .int .i64 0, .int .i64 0, .slice none 0 0]
      have hz := (Nx.refl W0).alloc (.cells #[.int .i64 0, .int .i64 0, .int .i64 0, .slice none 0 0] 54)
      have zlt : W0.heap.size < (W0.alloc (.cells #[.int .i64 0, .int .i64 0, .int .i64 0, .slice none 0 0] 54)).heap.size := by simp
      have zhz := hz.size; replace bL := bL.nx hz; replace hX := hX.trans hz; replace hXs := hXs.trans hz; (try replace bz := bz.nx hz); (try replace hi := hi.nx hz); (try replace hS := hS.nx hz)
      refine CallStep.mk (by rfl) (fun K hK => ?_)
      go_simp
      refine hK.out _ _ (by exact bL.d4) ?_
      clear hK K
      try simp only [Act.put, List.setIfInBounds_toArray, List.set_cons_zero, List.set_cons_succ]
      change HP _ _ _ _ _ _ (W0.alloc (.cells #[.int .i64 0, .int .i64 0, .int .i64 0, .slice none 0 0] 54))
      generalize W0.alloc (.cells #[.int .i64 0, .int .i64 0, .int .i64 0, .slice none 0 0] 54) = Wz at *
      generalize W0.heap.size = gz at *
      clear hz
      refine HP.call ?_
      refine CallStep.mk (by rfl) (fun K hK => ?_)
      go_simp
      refine (toIntS_c A2 c2 w.heap.size xs _ (h.below hX (Nat.le_refl _)) hX.size hl).mono ?_; rintro e v1 ⟨Ai, ci, rfl, hi, hv1⟩; have zhv1 := hv1.size; replace bL := bL.nx hv1; replace hX := hX.trans hv1; replace hXs := hXs.trans hv1; (try replace bz := bz.nx hv1); (try replace hi := hi.nx hv1); (try replace hS := hS.nx hv1)
      go_wp2_with fail
      refine hK.out _ _ (by exact bL.d4) ?_
      clear hK K
      try simp only [Act.put, List.setIfInBounds_toArray, List.set_cons_zero, List.set_cons_succ]
      refine HP.call ?_
      refine CallStep.mk (by rfl) (fun K hK => ?_)
      go_simp
      refine (toFrame_c p b v t _).mono ?_; rintro e v2 ⟨rfl, hv2⟩; have zhv2 := hv2.size; replace bL := bL.nx hv2; replace hX := hX.trans hv2; replace hXs := hXs.trans hv2; (try replace bz := bz.nx hv2); (try replace hi := hi.nx hv2); (try replace hS := hS.nx hv2)
      go_wp2_with fail
      refine hK.out _ _ (by exact bL.d4) ?_
      clear hK K
      try simp only [Act.put, List.setIfInBounds_toArray, List.set_cons_zero, List.set_cons_succ]
      refine HP.call ?_
      refine CallStep.mk (by rfl) (fun K hK => ?_)
      go_simp
      refine (specSegOf_c Ai ci _ xs p b v t _ hi.row (Nat.le_refl _) hl).mono ?_; intro e v3 hR; obtain ⟨A9, c9, rfl, hS, hv3⟩ := hR.un Hq.out Hc.out; replace hS := hS.low (lo' := W.heap.size) (by have := hXs.size; omega); have zhv3 := hv3.size; replace bL := bL.nx hv3; replace hX := hX.trans hv3; replace hXs := hXs.trans hv3; (try replace bz := bz.nx hv3); (try replace hi := hi.nx hv3); (try replace hS := hS.nx hv3)
      go_wp2_with fail
      refine hK.out _ _ (by exact bL.d4) ?_
      clear hK K
      try simp only [Act.put, List.setIfInBounds_toArray, List.set_cons_zero, List.set_cons_succ]
      repeat (first | (refine HP.take (v := ?_) (by rfl) ?_ ?_; rotate_left; (· (intro w hSw; (try dsimp only at hSw); go_simp; try with_reducible rfl)); (try simp only [Act.put, List.setIfInBounds_toArray, List.set_cons_zero, List.set_cons_succ])) | (refine HP.skip (by rfl) ?_; (try simp only [Act.put, List.setIfInBounds_toArray, List.set_cons_zero, List.set_cons_succ])))
      obtain ⟨rc0, rc1, rc2, rc3⟩ := bz.d4
      have rf0 := bz.frozen 0
      have rf1 := bz.frozen 1
      have rf2 := bz.frozen 2
      have rf3 := bz.frozen 3
      have rlt := bz.lt
      refine HP.call ?_
      refine CallStep.mk (by rfl) (fun K hK => ?_)
      go_simp
      refine hK.out _ _ (by exact ((((bL.far (p := ⟨gz, 0, none⟩) (by simp; omega) (.int .i64 q0)).far (p := ⟨gz, 1, none⟩) (by simp; omega) (.int .i64 q1)).far (p := ⟨gz, 2, none⟩) (by simp; omega) (.int .i64 q2)).far (p := ⟨gz, 3, none⟩) (by simp; omega) (.slice A9 qs.length c9)).d4) ?_
      clear hK K
      try simp only [Act.put, List.setIfInBounds_toArray, List.set_cons_zero, List.set_cons_succ]
      clear rc0 rc1 rc2 rc3 rf0 rf1 rf2 rf3
      repeat (first | (refine HP.take (v := ?_) (by rfl) ?_ ?_; rotate_left; (· (intro w hSw; (try dsimp only at hSw); go_simp; try with_reducible rfl)); (try simp only [Act.put, List.setIfInBounds_toArray, List.set_cons_zero, List.set_cons_succ])) | (refine HP.skip (by rfl) ?_; (try simp only [Act.put, List.setIfInBounds_toArray, List.set_cons_zero, List.set_cons_succ])))
      refine HP.done ?_
      have rq := put4_box bz (.int .i64 q0) (.int .i64 q1) (.int .i64 q2) (.slice A9 qs.length c9)
      have hnf := put4_nx (g := gz) hXs (by omega) (.int .i64 q0) (.int .i64 q1) (.int .i64 q2) (.slice A9 qs.length c9)
      have hSf := hS.put4 bz (by decide) (.int .i64 q0) (.int .i64 q1) (.int .i64 q2) (.slice A9 qs.length c9)
      unfold put4 at rq hnf hSf
      generalize ((((v3.setCell ⟨gz, 0, none⟩ (.int .i64 q0)).setCell ⟨gz, 1, none⟩ (.int .i64 q1)).setCell ⟨gz, 2, none⟩ (.int .i64 q2)).setCell ⟨gz, 3, none⟩ (.slice A9 qs.length c9)) = Wf at *
      exact key gz A9 c9 Wf Ai ci ⟨rq, hSf, by omega, hnf⟩
  intro gW A5 c5 W5 Ai5 ci5 ⟨bW, hS5, hgW, hxr5⟩
  have zb5 := bW.lt
  have zhxr5 := hxr5.size; replace bL := bL.nx hxr5; replace hX := hX.trans hxr5
  replace hS5 := hS5.sr
  clear hxr5
  go_wp2_with fail
  refine (toIntS_c A2 c2 w.heap.size xs _ (h.below hX (Nat.le_refl _)) hX.size hl).mono ?_
  rintro e w4 ⟨A6, c6, rfl, hS6, hx4⟩
  replace hS6 := hS6.sr
  have zhx4 := hx4.size; replace bL := bL.nx hx4; replace hS5 := hS5.nx hx4; replace bW := bW.nx hx4; replace hX := hX.trans hx4
  obtain ⟨l0, l1, l2, l3⟩ := bL.d4
  go_wp2_with fail
  refine (toFrame_c p b v t _).mono ?_
  rintro e w5 ⟨rfl, hx5⟩
  have zhx5 := hx5.size; replace bL := bL.nx hx5; replace hS5 := hS5.nx hx5; replace bW := bW.nx hx5; replace hS6 := hS6.nx hx5; replace hX := hX.trans hx5
  clear l0 l1 l2 l3
  go_wp2_with fail
  refine (implSegOf_c A6 c6 _ xs p b v t _ hS6.sl.row (Nat.le_refl _) hl).mono ?_
  intro e w6 hR
  obtain ⟨A8, c8, rfl, hS8, hx6⟩ := hR.un Hq.out Hc.out
  replace hS8 := hS8.sr
  have zhx6 := hx6.size; replace bL := bL.nx hx6; replace hS5 := hS5.nx hx6; replace bW := bW.nx hx6; replace hS6 := hS6.nx hx6; replace hX := hX.trans hx6
  obtain ⟨l0, l1, l2, l3⟩ := bW.d4
  have lltW := bW.lt
  go_wp2_with fail
  have bG := Box.new w6 54 #[.int .i64 q0, .int .i64 q1, .int .i64 q2, .slice A8 qs.length c8]
  have hxg := (Nx.refl w6).alloc (.cells #[.int .i64 q0, .int .i64 q1, .int .i64 q2, .slice A8 qs.length c8] 54)
  have zWg : w6.heap.size < (w6.alloc (.cells #[.int .i64 q0, .int .i64 q1, .int .i64 q2, .slice A8 qs.length c8] 54)).heap.size := by simp
  have zhxg := hxg.size; replace bL := bL.nx hxg; replace hS5 := hS5.nx hxg; replace bW := bW.nx hxg; replace hS6 := hS6.nx hxg; replace hS8 := hS8.nx hxg; replace hX := hX.trans hxg
  clear hxg zhxg lltW
  clear l0 l1 l2 l3
  generalize w6.alloc (.cells #[.int .i64 q0, .int .i64 q1, .int .i64 q2, .slice A8 qs.length c8] 54) = W6 at *
  refine (eqSeg_c q0 q1 q2 A8 A5 c8 c5 _ qs _ hS8.sl.row hS5.sl.row (Nat.le_refl _) hy).mono ?_
  rintro e w7 ⟨rfl, hx7⟩
  have zhx7 := hx7.size; replace bL := bL.nx hx7; replace hS5 := hS5.nx hx7; replace bW := bW.nx hx7; replace hS6 := hS6.nx hx7; replace hS8 := hS8.nx hx7; replace bG := bG.nx hx7; replace hX := hX.trans hx7
  go_wp2_with fail
  refine (toIntS_c A2 c2 w.heap.size xs _ (h.below hX (Nat.le_refl _)) hX.size hl).mono ?_
  rintro e w8 ⟨A9, c9, rfl, hS9, hx8⟩
  have zhx8 := hx8.size; replace bL := bL.nx hx8; replace hS5 := hS5.nx hx8; replace bW := bW.nx hx8; replace hS6 := hS6.nx hx8; replace hS8 := hS8.nx hx8; replace bG := bG.nx hx8; replace hX := hX.trans hx8
  go_wp2_with fail
  refine (eqIntS_c A6 A9 c6 c9 _ xs _ hS6.sl.row hS9.row (Nat.le_refl _) hl).mono ?_
  rintro e w9 ⟨rfl, hx9⟩
  have zhx9 := hx9.size; replace bL := bL.nx hx9; replace hS5 := hS5.nx hx9; replace bW := bW.nx hx9; replace hS6 := hS6.nx hx9; replace hS8 := hS8.nx hx9; replace bG := bG.nx hx9; replace hX := hX.trans hx9
  clear hS9
  go_wp2_with fail
  refine (markIntS_c A6 xs.length c6 1 _ _ _ _ hS6 hl (by omega)).mono ?_
  rintro e wc ⟨rfl, hS6b, hr1⟩
  have zhr1 := hr1.size; replace bL := bL.rg hr1 (by omega); replace hS5 := hS5.rg hr1 (by omega); replace bW := bW.rg hr1 (by omega); replace hS8 := hS8.rg hr1 (by omega); replace bG := bG.rg hr1 (by omega); replace hX := Rg.nx_of hX hr1 (by omega)
  clear hS6 hS6b
  obtain ⟨k1, Hk1⟩ : ∃ q, Hid (1 + xs.length = q) := ⟨_, rfl⟩
  have hd2 : decide ((k1 : Int) < 0) = false := by simp
  rw [Hk1.out]
  obtain ⟨l0, l1, l2, l3⟩ := bW.d4
  obtain ⟨m0, m1, m2, m3⟩ := bG.d4
  go_wp2_with fail
  refine (eqSeg_c q0 q1 q2 A8 A5 c8 c5 _ qs _ hS8.sl.row hS5.sl.row (Nat.le_refl _) hy).mono ?_
  rintro e we ⟨rfl, hxe⟩
  have zhxe := hxe.size; replace bL := bL.nx hxe; replace hS5 := hS5.nx hxe; replace bW := bW.nx hxe; replace hS8 := hS8.nx hxe; replace bG := bG.nx hxe; replace hX := hX.trans hxe
  clear l0 l1 l2 l3 m0 m1 m2 m3
  obtain ⟨m0, m1, m2, m3⟩ := bG.d4
  go_wp2_with fail
  refine (markSeg_c q0 q1 q2 A8 qs.length c8 _ _ _ _ hS8 (by omega) hy).mono ?_
  rintro e wf ⟨rfl, hS8b, hr3⟩
  have zhr3 := hr3.size; replace bL := bL.rg hr3 (by omega); replace hS5 := hS5.rg hr3 (by omega); replace bW := bW.rg hr3 (by omega); replace bG := bG.rg hr3 (by omega); replace hX := Rg.nx_of hX hr3 (by omega)
  clear hS8
  clear m0 m1 m2 m3
  obtain ⟨k3, Hk3⟩ : ∃ q, Hid (1 + qs.length * 3 = q) := ⟨_, rfl⟩
  have hd3 : decide ((k3 : Int) < 0) = false := by simp
  rw [Hk3.out]
  obtain ⟨m0, m1, m2, m3⟩ := bG.d4
  go_wp2_with fail
  refine (heldSeg_c q0 q1 q2 A8 qs.length c8 _ _ hS8b.sl.row (Nat.le_refl _) hy).mono ?_
  rintro e wh ⟨rfl, hxh⟩
  rw [Hk3.out]
  have zhxh := hxh.size; replace bL := bL.nx hxh; replace hS5 := hS5.nx hxh; replace bW := bW.nx hxh; replace bG := bG.nx hxh; replace hS8b := hS8b.nx hxh; replace hX := hX.trans hxh
  clear m0 m1 m2 m3
  go_wp2_with fail
  refine merge6 (F := (fun gq Aq cq Wq => Box Wq gq 54 #[.int .i64 q0, .int .i64 q1, .int .i64 q2, .slice Aq qs.length cq] ∧ Sl Wq wh.heap.size Aq 84 (qs.length * 3) (chAt qs) ∧ wh.heap.size ≤ gq ∧ Nx wh Wq)) (G := ?_) (fun key => ?_) ?_
  rotate_left
  · have hXs : Nx wh wh.drew := (Nx.refl wh).drew
    have hXk := hX
    have hX := hXk.drew
    clear hXk
    have zd : wh.heap.size ≤ wh.drew.heap.size := Nat.le_refl _
    have bLk := bL
    have bL : Box wh.drew w.heap.size 51 #[.int .i64 p, .int .i64 b, .int .i64 v, .int .i64 t] := bLk
    clear bLk
    have zbl := bL.lt
    refine wp_region_plan (.t 0 (.t 2 (.b 1 (.b 3 (.b 4 (.t 5 (.t 6 (.t 7 (.c 8 (.c 9 (.t 10 .e)))))) 8 (.c 4 (.t 5 (.t 6 (.t 7 (.c 9 (.t 10 .e))))))) 8 (.c 3 (.c 4 (.t 5 (.t 6 (.t 7 (.c 9 (.t 10 .e)))))))) 8 (.c 1 (.c 3 (.c 4 (.t 5 (.t 6 (.t 7 (.c 9 (.t 10 .e))))))))))) (fun w' => w'.cell? ⟨w.heap.size, 0, none⟩ = some (.int .i64 p) ∧ w'.cell? ⟨w.heap.size, 1, none⟩ = some (.int .i64 b) ∧ w'.cell? ⟨w.heap.size, 2, none⟩ = some (.int .i64 v) ∧ w'.cell? ⟨w.heap.size, 3, none⟩ = some (.int .i64 t)) (by kernel_rfl) (by kernel_rfl) rfl (by kernel_rfl) (fun _ _ d _ _ h => by cases d <;> exact h) (by exact bL.d4) ?_
    simp only [psOf, List.getD_cons_zero, List.getD_cons_succ]
    generalize wh.drew = W0 at *
    repeat (first | (refine HP.take (v := ?_) (by rfl) ?_ ?_; rotate_left; (· (intro w hSw; (try dsimp only at hSw); go_simp; try with_reducible rfl)); (try simp only [Act.put, List.setIfInBounds_toArray, List.set_cons_zero, List.set_cons_succ])) | (refine HP.skip (by rfl) ?_; (try simp only [Act.put, List.setIfInBounds_toArray, List.set_cons_zero, List.set_cons_succ])))
    refine HP.both ?_ ?_
    · refine CallStep.mk (by rfl) (fun K hK => ?_)
      go_simp
      refine (toIntS_c A2 c2 w.heap.size xs _ (h.below hX (Nat.le_refl _)) hX.size hl).mono ?_; rintro e v1 ⟨Ai, ci, rfl, hi, hv1⟩; have zhv1 := hv1.size; replace bL := bL.nx hv1; replace hX := hX.trans hv1; replace hXs := hXs.trans hv1; (try replace bz := bz.nx hv1); (try replace hi := hi.nx hv1); (try replace hS := hS.nx hv1)
      go_wp2_with fail
      refine hK.out _ _ (by exact bL.d4) ?_
      clear hK K
      try simp only [Act.put, List.setIfInBounds_toArray, List.set_cons_zero, List.set_cons_succ]
      refine HP.both ?_ ?_
      · refine CallStep.mk (by rfl) (fun K hK => ?_)
        go_simp
        refine (toFrame_c p b v t _).mono ?_; rintro e v2 ⟨rfl, hv2⟩; have zhv2 := hv2.size; replace bL := bL.nx hv2; replace hX := hX.trans hv2; replace hXs := hXs.trans hv2; (try replace bz := bz.nx hv2); (try replace hi := hi.nx hv2); (try replace hS := hS.nx hv2)
        go_wp2_with fail
        refine hK.out _ _ (by exact bL.d4) ?_
        clear hK K
        try simp only [Act.put, List.setIfInBounds_toArray, List.set_cons_zero, List.set_cons_succ]
        refine HP.both ?_ ?_
        · refine CallStep.mk (by rfl) (fun K hK => ?_)
          go_simp
          refine (implSegOf_c Ai ci _ xs p b v t _ hi.row (Nat.le_refl _) hl).mono ?_; intro e v3 hR; obtain ⟨A9, c9, rfl, hS, hv3⟩ := hR.un Hq.out Hc.out; replace hS := hS.low (lo' := wh.heap.size) (by have := hXs.size; omega); have zhv3 := hv3.size; replace bL := bL.nx hv3; replace hX := hX.trans hv3; replace hXs := hXs.trans hv3; (try replace bz := bz.nx hv3); (try replace hi := hi.nx hv3); (try replace hS := hS.nx hv3)
          go_wp2_with fail
          refine hK.out _ _ (by exact bL.d4) ?_
          clear hK K
          try simp only [Act.put, List.setIfInBounds_toArray, List.set_cons_zero, List.set_cons_succ]
          repeat (first | (refine HP.take (v := ?_) (by rfl) ?_ ?_; rotate_left; (· (intro w hSw; (try dsimp only at hSw); go_simp; try with_reducible rfl)); (try simp only [Act.put, List.setIfInBounds_toArray, List.set_cons_zero, List.set_cons_succ])) | (refine HP.skip (by rfl) ?_; (try simp only [Act.put, List.setIfInBounds_toArray, List.set_cons_zero, List.set_cons_succ])))
          refine HP.call ?_
          have bz := Box.new v3 54 #[.int .i64 0, .int .i64 0, .int .i64 0, .slice none 0 0]
          have hz := (Nx.refl v3).alloc (.cells #[.int .i64 0, .int .i64 0, .int .i64 0, .slice none 0 0] 54)
          have zlt : v3.heap.size < (v3.alloc (.cells #[.int .i64 0, .int .i64 0, .int .i64 0, .slice none 0 0] 54)).heap.size := by simp
          have zhz := hz.size; replace bL := bL.nx hz; replace hX := hX.trans hz; replace hXs := hXs.trans hz; (try replace bz := bz.nx hz); (try replace hi := hi.nx hz); (try replace hS := hS.nx hz)
          refine CallStep.mk (by rfl) (fun K hK => ?_)
          go_simp
          refine hK.out _ _ (by exact bL.d4) ?_
          clear hK K
          try simp only [Act.put, List.setIfInBounds_toArray, List.set_cons_zero, List.set_cons_succ]
          change HP _ _ _ _ _ _ (v3.alloc (.cells #[.int .i64 0, .int .i64 0, .int .i64 0, .slice none 0 0] 54))
          generalize v3.alloc (.cells #[.int .i64 0, .int .i64 0, .int .i64 0, .slice none 0 0] 54) = Wz at *
          generalize v3.heap.size = gz at *
          clear hz
          obtain ⟨rc0, rc1, rc2, rc3⟩ := bz.d4
          have rf0 := bz.frozen 0
          have rf1 := bz.frozen 1
          have rf2 := bz.frozen 2
          have rf3 := bz.frozen 3
          have rlt := bz.lt
          refine HP.call ?_
          refine CallStep.mk (by rfl) (fun K hK => ?_)
          go_simp
          refine hK.out _ _ (by exact ((((bL.far (p := ⟨gz, 0, none⟩) (by simp; omega) (.int .i64 q0)).far (p := ⟨gz, 1, none⟩) (by simp; omega) (.int .i64 q1)).far (p := ⟨gz, 2, none⟩) (by simp; omega) (.int .i64 q2)).far (p := ⟨gz, 3, none⟩) (by simp; omega) (.slice A9 qs.length c9)).d4) ?_
          clear hK K
          try simp only [Act.put, List.setIfInBounds_toArray, List.set_cons_zero, List.set_cons_succ]
          clear rc0 rc1 rc2 rc3 rf0 rf1 rf2 rf3
          repeat (first | (refine HP.take (v := ?_) (by rfl) ?_ ?_; rotate_left; (· (intro w hSw; (try dsimp only at hSw); go_simp; try with_reducible rfl)); (try simp only [Act.put, List.setIfInBounds_toArray, List.set_cons_zero, List.set_cons_succ])) | (refine HP.skip (by rfl) ?_; (try simp only [Act.put, List.setIfInBounds_toArray, List.set_cons_zero, List.set_cons_succ])))
          refine HP.done ?_
          have rq := put4_box bz (.int .i64 q0) (.int .i64 q1) (.int .i64 q2) (.slice A9 qs.length c9)
          have hnf := put4_nx (g := gz) hXs (by omega) (.int .i64 q0) (.int .i64 q1) (.int .i64 q2) (.slice A9 qs.length c9)
          have hSf := hS.put4 bz (by decide) (.int .i64 q0) (.int .i64 q1) (.int .i64 q2) (.slice A9 qs.length c9)
          unfold put4 at rq hnf hSf
          generalize ((((Wz.setCell ⟨gz, 0, none⟩ (.int .i64 q0)).setCell ⟨gz, 1, none⟩ (.int .i64 q1)).setCell ⟨gz, 2, none⟩ (.int .i64 q2)).setCell ⟨gz, 3, none⟩ (.slice A9 qs.length c9)) = Wf at *
          exact key gz A9 c9 Wf Ai ci ⟨rq, hSf, by omega, hnf⟩
        · have bz := Box.new v2 54 #[.int .i64 0, .int .i64 0, .int .i64 0, .slice none 0 0]
          have hz := (Nx.refl v2).alloc (.cells #[.int .i64 0, .int .i64 0, .int .i64 0, .slice none 0 0] 54)
          have zlt : v2.heap.size < (v2.alloc (.cells #[.int .i64 0, .int .i64 0, .int .i64 0, .slice none 0 0] 54)).heap.size := by simp
          have zhz := hz.size; replace bL := bL.nx hz; replace hX := hX.trans hz; replace hXs := hXs.trans hz; (try replace bz := bz.nx hz); (try replace hi := hi.nx hz); (try replace hS := hS.nx hz)
          refine CallStep.mk (by rfl) (fun K hK => ?_)
          go_simp
          refine hK.out _ _ (by exact bL.d4) ?_
          clear hK K
          try simp only [Act.put, List.setIfInBounds_toArray, List.set_cons_zero, List.set_cons_succ]
          change HP _ _ _ _ _ _ (v2.alloc (.cells #[.int .i64 0, .int .i64 0, .int .i64 0, .slice none 0 0] 54))
          generalize v2.alloc (.cells #[.int .i64 0, .int .i64 0, .int .i64 0, .slice none 0 0] 54) = Wz at *
          generalize v2.heap.size = gz at *
          clear hz
          refine HP.call ?_
          refine CallStep.mk (by rfl) (fun K hK => ?_)
          go_simp
          refine (implSegOf_c Ai ci _ xs p b v t _ hi.row (Nat.le_refl _) hl).mono ?_; intro e v3 hR; obtain ⟨A9, c9, rfl, hS, hv3⟩ := hR.un Hq.out Hc.out; replace hS := hS.low (lo' := wh.heap.size) (by have := hXs.size; omega); have zhv3 := hv3.size; replace bL := bL.nx hv3; replace hX := hX.trans hv3; replace hXs := hXs.trans hv3; (try replace bz := bz.nx hv3); (try replace hi := hi.nx hv3); (try replace hS := hS.nx hv3)
          go_wp2_with fail
          refine hK.out _ _ (by exact bL.d4) ?_
          clear hK K
          try simp only [Act.put, List.setIfInBounds_toArray, List.set_cons_zero, List.set_cons_succ]
          repeat (first | (refine HP.take (v := ?_) (by rfl) ?_ ?_; rotate_left; (· (intro w hSw; (try dsimp only at hSw); go_simp; try with_reducible rfl)); (try simp only [Act.put, List.setIfInBounds_toArray, List.set_cons_zero, List.set_cons_succ])) | (refine HP.skip (by rfl) ?_; (try simp only [Act.put, List.setIfInBounds_toArray, List.set_cons_zero, List.set_cons_succ])))
          obtain ⟨rc0, rc1, rc2, rc3⟩ := bz.d4
          have rf0 := bz.frozen 0
          have rf1 := bz.frozen 1
          have rf2 := bz.frozen 2
          have rf3 := bz.frozen 3
          have rlt := bz.lt
          refine HP.call ?_
          refine CallStep.mk (by rfl) (fun K hK => ?_)
          go_simp
          refine hK.out _ _ (by exact ((((bL.far (p := ⟨gz, 0, none⟩) (by simp; omega) (.int .i64 q0)).far (p := ⟨gz, 1, none⟩) (by simp; omega) (.int .i64 q1)).far (p := ⟨gz, 2, none⟩) (by simp; omega) (.int .i64 q2)).far (p := ⟨gz, 3, none⟩) (by simp; omega) (.slice A9 qs.length c9)).d4) ?_
          clear hK K
          try simp only [Act.put, List.setIfInBounds_toArray, List.set_cons_zero, List.set_cons_succ]
          clear rc0 rc1 rc2 rc3 rf0 rf1 rf2 rf3
          repeat (first | (refine HP.take (v := ?_) (by rfl) ?_ ?_; rotate_left; (· (intro w hSw; (try dsimp only at hSw); go_simp; try with_reducible rfl)); (try simp only [Act.put, List.setIfInBounds_toArray, List.set_cons_zero, List.set_cons_succ])) | (refine HP.skip (by rfl) ?_; (try simp only [Act.put, List.setIfInBounds_toArray, List.set_cons_zero, List.set_cons_succ])))
          refine HP.done ?_
          have rq := put4_box bz (.int .i64 q0) (.int .i64 q1) (.int .i64 q2) (.slice A9 qs.length c9)
          have hnf := put4_nx (g := gz) hXs (by omega) (.int .i64 q0) (.int .i64 q1) (.int .i64 q2) (.slice A9 qs.length c9)
          have hSf := hS.put4 bz (by decide) (.int .i64 q0) (.int .i64 q1) (.int .i64 q2) (.slice A9 qs.length c9)
          unfold put4 at rq hnf hSf
          generalize ((((v3.setCell ⟨gz, 0, none⟩ (.int .i64 q0)).setCell ⟨gz, 1, none⟩ (.int .i64 q1)).setCell ⟨gz, 2, none⟩ (.int .i64 q2)).setCell ⟨gz, 3, none⟩ (.slice A9 qs.length c9)) = Wf at *
          exact key gz A9 c9 Wf Ai ci ⟨rq, hSf, by omega, hnf⟩
      · have bz := Box.new v1 54 #[.int .i64 0, .int .i64 0, .int .i64 0, .slice none 0 0]
        have hz := (Nx.refl v1).alloc (.cells #[.int .i64 0, .int .i64 0, .int .i64 0, .slice none 0 0] 54)
        have zlt : v1.heap.size < (v1.alloc (.cells #[.int .i64 0, .int .i64 0, .int .i64 0, .slice none 0 0] 54)).heap.size := by simp
        have zhz := hz.size; replace bL := bL.nx hz; replace hX := hX.trans hz; replace hXs := hXs.trans hz; (try replace bz := bz.nx hz); (try replace hi := hi.nx hz); (try replace hS := hS.nx hz)
        refine CallStep.mk (by rfl) (fun K hK => ?_)
        go_simp
        refine hK.out _ _ (by exact bL.d4) ?_
        clear hK K
        try simp only [Act.put, List.setIfInBounds_toArray, List.set_cons_zero, List.set_cons_succ]
        change HP _ _ _ _ _ _ (v1.alloc (.cells #[.int .i64 0, .int .i64 0, .int .i64 0, .slice none 0 0] 54))
        generalize v1.alloc (.cells #[.int .i64 0, .int .i64 0, .int .i64 0, .slice none 0 0] 54) = Wz at *
        generalize v1.heap.size = gz at *
        clear hz
        refine HP.call ?_
        refine CallStep.mk (by rfl) (fun K hK => ?_)
        go_simp
        refine (toFrame_c p b v t _).mono ?_; rintro e v2 ⟨rfl, hv2⟩; have zhv2 := hv2.size; replace bL := bL.nx hv2; replace hX := hX.trans hv2; replace hXs := hXs.trans hv2; (try replace bz := bz.nx hv2); (try replace hi := hi.nx hv2); (try replace hS := hS.nx hv2)
        go_wp2_with fail
        refine hK.out _ _ (by exact bL.d4) ?_
        clear hK K
        try simp only [Act.put, List.setIfInBounds_toArray, List.set_cons_zero, List.set_cons_succ]
        refine HP.call ?_
        refine CallStep.mk (by rfl) (fun K hK => ?_)
        go_simp
        refine (implSegOf_c Ai ci _ xs p b v t _ hi.row (Nat.le_refl _) hl).mono ?_; intro e v3 hR; obtain ⟨A9, c9, rfl, hS, hv3⟩ := hR.un Hq.out Hc.out; replace hS := hS.low (lo' := wh.heap.size) (by have := hXs.size; omega); have zhv3 := hv3.size; replace bL := bL.nx hv3; replace hX := hX.trans hv3; replace hXs := hXs.trans hv3; (try replace bz := bz.nx hv3); (try replace hi := hi.nx hv3); (try replace hS := hS.nx hv3)
        go_wp2_with fail
        refine hK.out _ _ (by exact bL.d4) ?_
        clear hK K
        try simp only [Act.put, List.setIfInBounds_toArray, List.set_cons_zero, List.set_cons_succ]
        repeat (first | (refine HP.take (v := ?_) (by rfl) ?_ ?_; rotate_left; (· (intro w hSw; (try dsimp only at hSw); go_simp; try with_reducible rfl)); (try simp only [Act.put, List.setIfInBounds_toArray, List.set_cons_zero, List.set_cons_succ])) | (refine HP.skip (by rfl) ?_; (try simp only [Act.put, List.setIfInBounds_toArray, List.set_cons_zero, List.set_cons_succ])))
        obtain ⟨rc0, rc1, rc2, rc3⟩ := bz.d4
        have rf0 := bz.frozen 0
        have rf1 := bz.frozen 1
        have rf2 := bz.frozen 2
        have rf3 := bz.frozen 3
        have rlt := bz.lt
        refine HP.call ?_
        refine CallStep.mk (by rfl) (fun K hK => ?_)
        go_simp
        refine hK.out _ _ (by exact ((((bL.far (p := ⟨gz, 0, none⟩) (by simp; omega) (.int .i64 q0)).far (p := ⟨gz, 1, none⟩) (by simp; omega) (.int .i64 q1)).far (p := ⟨gz, 2, none⟩) (by simp; omega) (.int .i64 q2)).far (p := ⟨gz, 3, none⟩) (by simp; omega) (.slice A9 qs.length c9)).d4) ?_
        clear hK K
        try simp only [Act.put, List.setIfInBounds_toArray, List.set_cons_zero, List.set_cons_succ]
        clear rc0 rc1 rc2 rc3 rf0 rf1 rf2 rf3
        repeat (first | (refine HP.take (v := ?_) (by rfl) ?_ ?_; rotate_left; (· (intro w hSw; (try dsimp only at hSw); go_simp; try with_reducible rfl)); (try simp only [Act.put, List.setIfInBounds_toArray, List.set_cons_zero, List.set_cons_succ])) | (refine HP.skip (by rfl) ?_; (try simp only [Act.put, List.setIfInBounds_toArray, List.set_cons_zero, List.set_cons_succ])))
        refine HP.done ?_
        have rq := put4_box bz (.int .i64 q0) (.int .i64 q1) (.int .i64 q2) (.slice A9 qs.length c9)
        have hnf := put4_nx (g := gz) hXs (by omega) (.int .i64 q0) (.int .i64 q1) (.int .i64 q2) (.slice A9 qs.length c9)
        have hSf := hS.put4 bz (by decide) (.int .i64 q0) (.int .i64 q1) (.int .i64 q2) (.slice A9 qs.length c9)
        unfold put4 at rq hnf hSf
        generalize ((((v3.setCell ⟨gz, 0, none⟩ (.int .i64 q0)).setCell ⟨gz, 1, none⟩ (.int .i64 q1)).setCell ⟨gz, 2, none⟩ (.int .i64 q2)).setCell ⟨gz, 3, none⟩ (.slice A9 qs.length c9)) = Wf at *
        exact key gz A9 c9 Wf Ai ci ⟨rq, hSf, by omega, hnf⟩
    · have bz := Box.new W0 54 #[.int .i64 0, .int .i64 0, .int .i64 0, .slice none 0 0]
      have hz := (Nx.refl W0).alloc (.cells #[.int .i64 0, .int .i64 0, .int .i64 0, .slice none 0 0] 54)
      have zlt : W0.heap.size < (W0.alloc (.cells #[.int .i64 0, .int .i64 0, .int .i64 0, .slice none 0 0] 54)).heap.size := by simp
      have zhz := hz.size; replace bL := bL.nx hz; replace hX := hX.trans hz; replace hXs := hXs.trans hz; (try replace bz := bz.nx hz); (try replace hi := hi.nx hz); (try replace hS := hS.nx hz)
      refine CallStep.mk (by rfl) (fun K hK => ?_)
      go_simp
      refine hK.out _ _ (by exact bL.d4) ?_
      clear hK K
      try simp only [Act.put, List.setIfInBounds_toArray, List.set_cons_zero, List.set_cons_succ]
      change HP _ _ _ _ _ _ (W0.alloc (.cells #[.int .i64 0, .int .i64 0, .int .i64 0, .slice none 0 0] 54))
      generalize W0.alloc (.cells #[.int .i64 0, .int .i64 0, .int .i64 0, .slice none 0 0] 54) = Wz at *
      generalize W0.heap.size = gz at *
      clear hz
      refine HP.call ?_
      refine CallStep.mk (by rfl) (fun K hK => ?_)
      go_simp
      refine (toIntS_c A2 c2 w.heap.size xs _ (h.below hX (Nat.le_refl _)) hX.size hl).mono ?_; rintro e v1 ⟨Ai, ci, rfl, hi, hv1⟩; have zhv1 := hv1.size; replace bL := bL.nx hv1; replace hX := hX.trans hv1; replace hXs := hXs.trans hv1; (try replace bz := bz.nx hv1); (try replace hi := hi.nx hv1); (try replace hS := hS.nx hv1)
      go_wp2_with fail
      refine hK.out _ _ (by exact bL.d4) ?_
      clear hK K
      try simp only [Act.put, List.setIfInBounds_toArray, List.set_cons_zero, List.set_cons_succ]
      refine HP.call ?_
      refine CallStep.mk (by rfl) (fun K hK => ?_)
      go_simp
      refine (toFrame_c p b v t _).mono ?_; rintro e v2 ⟨rfl, hv2⟩; have zhv2 := hv2.size; replace bL := bL.nx hv2; replace hX := hX.trans hv2; replace hXs := hXs.trans hv2; (try replace bz := bz.nx hv2); (try replace hi := hi.nx hv2); (try replace hS := hS.nx hv2)
      go_wp2_with fail
      refine hK.out _ _ (by exact bL.d4) ?_
      clear hK K
      try simp only [Act.put, List.setIfInBounds_toArray, List.set_cons_zero, List.set_cons_succ]
      refine HP.call ?_
      refine CallStep.mk (by rfl) (fun K hK => ?_)
      go_simp
      refine (implSegOf_c Ai ci _ xs p b v t _ hi.row (Nat.le_refl _) hl).mono ?_; intro e v3 hR; obtain ⟨A9, c9, rfl, hS, hv3⟩ := hR.un Hq.out Hc.out; replace hS := hS.low (lo' := wh.heap.size) (by have := hXs.size; omega); have zhv3 := hv3.size; replace bL := bL.nx hv3; replace hX := hX.trans hv3; replace hXs := hXs.trans hv3; (try replace bz := bz.nx hv3); (try replace hi := hi.nx hv3); (try replace hS := hS.nx hv3)
      go_wp2_with fail
      refine hK.out _ _ (by exact bL.d4) ?_
      clear hK K
      try simp only [Act.put, List.setIfInBounds_toArray, List.set_cons_zero, List.set_cons_succ]
      repeat (first | (refine HP.take (v := ?_) (by rfl) ?_ ?_; rotate_left; (· (intro w hSw; (try dsimp only at hSw); go_simp; try with_reducible rfl)); (try simp only [Act.put, List.setIfInBounds_toArray, List.set_cons_zero, List.set_cons_succ])) | (refine HP.skip (by rfl) ?_; (try simp only [Act.put, List.setIfInBounds_toArray, List.set_cons_zero, List.set_cons_succ])))
      obtain ⟨rc0, rc1, rc2, rc3⟩ := bz.d4
      have rf0 := bz.frozen 0
      have rf1 := bz.frozen 1
      have rf2 := bz.frozen 2
      have rf3 := bz.frozen 3
      have rlt := bz.lt
      refine HP.call ?_
      refine CallStep.mk (by rfl) (fun K hK => ?_)
      go_simp
      refine hK.out _ _ (by exact ((((bL.far (p := ⟨gz, 0, none⟩) (by simp; omega) (.int .i64 q0)).far (p := ⟨gz, 1, none⟩) (by simp; omega) (.int .i64 q1)).far (p := ⟨gz, 2, none⟩) (by simp; omega) (.int .i64 q2)).far (p := ⟨gz, 3, none⟩) (by simp; omega) (.slice A9 qs.length c9)).d4) ?_
      clear hK K
      try simp only [Act.put, List.setIfInBounds_toArray, List.set_cons_zero, List.set_cons_succ]
      clear rc0 rc1 rc2 rc3 rf0 rf1 rf2 rf3
      repeat (first | (refine HP.take (v := ?_) (by rfl) ?_ ?_; rotate_left; (· (intro w hSw; (try dsimp only at hSw); go_simp; try with_reducible rfl)); (try simp only [Act.put, List.setIfInBounds_toArray, List.set_cons_zero, List.set_cons_succ])) | (refine HP.skip (by rfl) ?_; (try simp only [Act.put, List.setIfInBounds_toArray, List.set_cons_zero, List.set_cons_succ])))
      refine HP.done ?_
      have rq := put4_box bz (.int .i64 q0) (.int .i64 q1) (.int .i64 q2) (.slice A9 qs.length c9)
      have hnf := put4_nx (g := gz) hXs (by omega) (.int .i64 q0) (.int .i64 q1) (.int .i64 q2) (.slice A9 qs.length c9)
      have hSf := hS.put4 bz (by decide) (.int .i64 q0) (.int .i64 q1) (.int .i64 q2) (.slice A9 qs.length c9)
      unfold put4 at rq hnf hSf
      generalize ((((v3.setCell ⟨gz, 0, none⟩ (.int .i64 q0)).setCell ⟨gz, 1, none⟩ (.int .i64 q1)).setCell ⟨gz, 2, none⟩ (.int .i64 q2)).setCell ⟨gz, 3, none⟩ (.slice A9 qs.length c9)) = Wf at *
      exact key gz A9 c9 Wf Ai ci ⟨rq, hSf, by omega, hnf⟩
  intro gH A15 c15 W15 Ai15 ci15 ⟨bH, hS15, hgH, hxr15⟩
  have zb15 := bH.lt
  have zhxr15 := hxr15.size; replace bL := bL.nx hxr15; replace hS5 := hS5.nx hxr15; replace bW := bW.nx hxr15; replace bG := bG.nx hxr15; replace hS8b := hS8b.nx hxr15; replace hX := hX.trans hxr15
  replace hS15 := hS15.sr
  clear hxr15
  obtain ⟨l0, l1, l2, l3⟩ := bW.d4
  obtain ⟨m0, m1, m2, m3⟩ := bH.d4
  go_wp2_with fail
  refine (eqSeg_c q0 q1 q2 A15 A5 c15 c5 _ qs _ hS15.sl.row hS5.sl.row (Nat.le_refl _) hy).mono ?_
  rintro e wg ⟨rfl, hxg⟩
  have zhxg := hxg.size; replace bL := bL.nx hxg; replace hS5 := hS5.nx hxg; replace bW := bW.nx hxg; replace bG := bG.nx hxg; replace hS8b := hS8b.nx hxg; replace hS15 := hS15.nx hxg; replace bH := bH.nx hxg; replace hX := hX.trans hxg
  clear l0 l1 l2 l3 m0 m1 m2 m3
  obtain ⟨m0, m1, m2, m3⟩ := bG.d4
  go_wp2_with fail
  refine (heldSeg_c q0 q1 q2 A8 qs.length c8 _ _ hS8b.sl.row (Nat.le_refl _) hy).mono ?_
  rintro e wi ⟨rfl, hxi⟩
  rw [Hk3.out]
  have zhxi := hxi.size; replace bL := bL.nx hxi; replace hS5 := hS5.nx hxi; replace bW := bW.nx hxi; replace bG := bG.nx hxi; replace hS8b := hS8b.nx hxi; replace hS15 := hS15.nx hxi; replace bH := bH.nx hxi; replace hX := hX.trans hxi
  go_wp2
  go_ret
  exact ⟨rfl, hX⟩
end Go.Proofs.Ytihpadelfpogmaa
/- Contracts of the model's source of choices: a byte, one of n, a chance; what it leaves is its own block alone. Conditions: the code can be read, and holds at most 1048576 bytes. -/
namespace Go.Proofs.Ytihpadelfpogmaa
set_option linter.unusedVariables false
set_option maxRecDepth 100000
open Go.ChangeShapes Go.WideShapes Go.RowKit Go.Deep

/-- A slice of bytes that is read. -/
def u8At (ys : List Nat) (i : Nat) : Value := .int .u8 ((ys.getD i 0 : Nat) : Int)
def U8s (w : World) (B : Nat) (A : Option Addr) (n : Nat) (ys : List Nat) : Prop := ys.length = n ∧ (∀ i, ys.getD i 0 < 256) ∧ Row w B A n (u8At ys)
section
variable {w w' : World} {B B' n : Nat} {A : Option Addr} {ys : List Nat}
theorem U8s.below (h : U8s w B A n ys) (hb : Below B' w w') (hB : B ≤ B') : U8s w' B A n ys := ⟨h.1, h.2.1, h.2.2.below hb hB⟩
theorem U8s.more (h : U8s w B A n ys) (hB : B ≤ B') : U8s w B' A n ys := ⟨h.1, h.2.1, h.2.2.more hB⟩
theorem U8s.rg {lo hi : Nat} (h : U8s w B A n ys) (hb : Rg lo hi w w') (hB : B ≤ lo) (hl : lo ≤ w.heap.size) : U8s w' B A n ys := h.below (hb.below hl) hB
theorem U8s.at_ {k : Nat} (h : U8s w B A n ys) (hk : k < n) : ∃ b off, A = some ⟨b, off, none⟩ ∧ b < B ∧ w.cell? ⟨b, off + k, none⟩ = some (.int .u8 ((ys.getD k 0 : Nat) : Int)) := by
  obtain ⟨b, off, e, hb, hc⟩ := h.2.2 (by omega)
  exact ⟨b, off, e, hb, hc k hk⟩
end
section
variable {w : World} {g : Nat} {t : TypeId} {v0 v1 v2 : Value}
theorem Box.d0 (h : Box w g t #[v0, v1, v2]) : w.cell? ⟨g, 0, none⟩ = some v0 := h.cell 0
theorem Box.d1 (h : Box w g t #[v0, v1, v2]) : w.cell? ⟨g, 1, none⟩ = some v1 := h.cell 1
theorem Box.d2 (h : Box w g t #[v0, v1, v2]) : w.cell? ⟨g, 2, none⟩ = some v2 := h.cell 2
theorem Box.put1 (h : Box w g t #[v0, v1, v2]) (u : Value) : Box (w.setCell ⟨g, 1, none⟩ u) g t #[v0, u, v2] := by
  unfold Box at h ⊢
  simp [World.setCell, Array.getElem?_modify, h]
theorem Box.put2 (h : Box w g t #[v0, v1, v2]) (u : Value) : Box (w.setCell ⟨g, 2, none⟩ u) g t #[v0, v1, u] := by
  unfold Box at h ⊢
  simp [World.setCell, Array.getElem?_modify, h]
end

/-- A byte of a source: what it is, and the source's state then. -/
def byteP (ys : List Nat) (a sd : Nat) : Nat × Nat × Nat :=
  if a + 1 ≤ ys.length then (ys.getD a 0, a + 1, (sd * 31 + ys.getD a 0 + 7) % 2147483648)
  else if 3000 < a + 1 then (0, a + 1, sd)
  else ((sd * 1103515245 + 12345) % 2147483648 / 65536 % 256, a + 1, (sd * 1103515245 + 12345) % 2147483648)
theorem byteP_lt {ys : List Nat} {a sd b a' sd' : Nat} (hy : ∀ i, ys.getD i 0 < 256) (hs : sd < 2147483648) (h : byteP ys a sd = (b, a', sd')) : b < 256 ∧ a' = a + 1 ∧ sd' < 2147483648 := by
  unfold byteP at h
  have := hy a
  split at h
  · cases h; omega
  · split at h <;> cases h <;> omega
def Src (w : World) (g : Nat) (A : Option Addr) (n c a sd : Nat) : Prop := Box w g 156 #[.slice A n c, .int .i64 a, .int .i64 sd]

set_option maxRecDepth 100000 in
set_option maxHeartbeats 1000000 in
theorem byte_c (g : Nat) (A : Option Addr) (n c a sd B : Nat) (ys : List Nat) (b a' sd' : Nat) (w : World) (hb : Src w g A n c a sd) (h : U8s w B A n ys) (hB : B ≤ g) (hn : n ≤ 1048576) (ha : a ≤ 1048576) (hs : sd < 2147483648)
    (HP : byteP ys a sd = (b, a', sd')) :
    Calls Try.prog 162 #[.pointer (some ⟨g, 0, none⟩)] w fun e w' => e = .returned (.int .i64 b) ∧ Src w' g A n c a' sd' ∧ Rg g (g + 1) w w' := by
  unfold Src at *
  have c0 := hb.d0
  have c1 := hb.d1
  have c2 := hb.d2
  have f1 := hb.frozen 1
  have f2 := hb.frozen 2
  have hr1 := (Rg.of_nx (lo := g) (hi := g + 1) (Nx.refl w)).setCell (p := ⟨g, 1, none⟩) (Nat.le_refl _) (Nat.lt_succ_self _) (.int .i64 ((a : Int) + 1))
  have hbs := hb.put1 (.int .i64 ((a : Int) + 1))
  have h1 := h.rg hr1 hB (Nat.le_of_lt hb.lt)
  go_enter Try.func162, Try.ntmps162
  go_wp2
  generalize w.setCell ⟨g, 1, none⟩ (.int .i64 ((a : Int) + 1)) = w1 at *
  clear c0 c1 c2 f1 f2 h
  have c0 := hbs.d0
  have c1 := hbs.d1
  have c2 := hbs.d2
  have f2 := hbs.frozen 2
  by_cases hlt : a < n
  · obtain ⟨b0, off, rfl, hb0, hc⟩ := h1.at_ hlt
    unfold byteP at HP
    rw [if_pos (by rw [h1.1]; omega)] at HP
    have hy := h1.2.1 a
    generalize ys.getD a 0 = y at *
    cases HP
    go_quiet (fail)
    have hr2 : Rg g (g + 1) w (w1.drewN nq) := hr1.trans (Rg.of_nx ((Nx.refl w1).drewN nq))
    have hb2 : Box (w1.drewN nq) g 156 #[.slice (some ⟨b0, off, none⟩) n c, .int .i64 ((a : Int) + 1), .int .i64 sd] := hbs
    have hc2 : (w1.drewN nq).cell? ⟨b0, off + a, none⟩ = some (.int .u8 (b : Int)) := hc
    clear c0 c1 c2 f2 hc hbs hr1 h1
    generalize w1.drewN nq = w2 at *
    have c0 := hb2.d0
    have c1 := hb2.d1
    have c2 := hb2.d2
    have f2 := hb2.frozen 2
    go_wp2_with fail
    go_still_tail 23, (by kernel_rfl)
    have e1 : IntKind.i64.wrap (a : Int) = a := IntWalk.i64_in _ (by omega)
    have e2 : IntKind.i64.wrap ((sd : Int) * 31) = (sd : Int) * 31 := IntWalk.i64_in _ (by omega)
    have e0 : IntKind.i64.wrap (b : Int) = b := IntWalk.i64_in _ (by omega)
    have e3 : IntKind.i64.wrap ((sd : Int) * 31 + b) = (sd : Int) * 31 + b := IntWalk.i64_in _ (by omega)
    have e4 : IntKind.i64.wrap ((sd : Int) * 31 + b + 7) = (sd : Int) * 31 + b + 7 := IntWalk.i64_in _ (by omega)
    have e6 : ((sd : Int) * 31 + b + 7).tmod 2147483648 = ((sd : Int) * 31 + b + 7) % 2147483648 := Int.tmod_eq_emod_of_nonneg (by omega)
    repeat (first | still_step | rw [e1] | rw [e2])
    try refine wpStill_nil ?_
    change wpList _ _ _ _ _ w2.drew
    have e5 : ((sd : Int) * 31 + b + 7) % 2147483648 = (((sd * 31 + b + 7) % 2147483648 : Nat) : Int) := by omega
    first | rw [e6, e5] | rw [e5]
    have hr3 : Rg g (g + 1) w w2.drew := hr2.trans (Rg.of_nx (Nx.refl w2).drew)
    have hb3 : Box w2.drew g 156 #[.slice (some ⟨b0, off, none⟩) n c, .int .i64 ((a : Int) + 1), .int .i64 sd] := hb2
    have hc3 : w2.drew.cell? ⟨b0, off + a, none⟩ = some (.int .u8 (b : Int)) := hc2
    clear c0 c1 c2 f2 hc2 hb2 hr2 e0 e2 e3 e4 e5 e6
    generalize w2.drew = w3 at *
    have c2 := hb3.d2
    have f2 := hb3.frozen 2
    generalize hs' : (sd * 31 + b + 7) % 2147483648 = s'
    have Hs := Lib.hid hs'
    clear hs'
    have hb4 := hb3.put2 (.int .i64 (s' : Int))
    have hc4 : (w3.setCell ⟨g, 2, none⟩ (.int .i64 (s' : Int))).cell? ⟨b0, off + a, none⟩ = some (.int .u8 (b : Int)) := by rw [World.cell?_setCell_far _ _ _ _ (by simp; omega)]; exact hc3
    have hr4 := hr3.setCell (p := ⟨g, 2, none⟩) (Nat.le_refl _) (Nat.lt_succ_self _) (.int .i64 (s' : Int))
    go_wp2_with fail
    clear c2 f2 hc3 hb3 hr3
    generalize w3.setCell ⟨g, 2, none⟩ (.int .i64 (s' : Int)) = w4 at *
    have c0 := hb4.d0
    have c1 := hb4.d1
    go_quiet (fail)
    go_wp2
    go_ret
    refine ⟨rfl, ?_, hr4.trans (Rg.of_nx ((Nx.refl w4).drewN nq))⟩
    rw [Hs.out]
    exact hb4
  · unfold byteP at HP
    rw [if_neg (by rw [h1.1]; omega)] at HP
    by_cases h3 : 3000 < a + 1
    · rw [if_pos h3] at HP
      cases HP
      have h3' : decide ((3000 : Int) < (a : Int) + 1) = true := by simp; omega
      clear h3
      go_quiet (fail)
      go_wp2
      go_ret
      exact ⟨rfl, hbs, hr1.trans (Rg.of_nx ((Nx.refl w1).drewN nq))⟩
    · rw [if_neg h3] at HP
      have H3 := (Prod.mk.inj (Prod.mk.inj HP).2).2
      have H2 := (Prod.mk.inj (Prod.mk.inj HP).2).1
      have H1 := (Prod.mk.inj HP).1
      clear HP
      rw [H3] at H1
      have e6 : ((sd : Int) * 1103515245 + 12345).tmod 2147483648 = (sd' : Int) := by rw [Int.tmod_eq_emod_of_nonneg (by omega)]; omega
      have hsd' : sd' < 2147483648 := by omega
      have K1 := Lib.hid H1
      clear H3 H1
      subst H2
      have h3' : decide ((3000 : Int) < (a : Int) + 1) = false := by simp; omega
      clear h3
      go_quiet (fail)
      have hr2 : Rg g (g + 1) w (w1.drewN nq) := hr1.trans (Rg.of_nx ((Nx.refl w1).drewN nq))
      have hb2 : Box (w1.drewN nq) g 156 #[.slice A n c, .int .i64 ((a : Int) + 1), .int .i64 sd] := hbs
      clear c0 c1 c2 f2 hbs hr1 h1
      generalize w1.drewN nq = w2 at *
      have c0 := hb2.d0
      have c1 := hb2.d1
      have c2 := hb2.d2
      have f2 := hb2.frozen 2
      go_wp2
      go_ret
      exact ⟨ret_int (by have := K1.out; omega), hb2.put2 _, hr2.setCell (p := ⟨g, 2, none⟩) (Nat.le_refl _) (Nat.lt_succ_self _) _⟩

set_option maxRecDepth 100000 in
set_option maxHeartbeats 1000000 in
theorem next_c (m g : Nat) (A : Option Addr) (n c a sd B : Nat) (ys : List Nat) (b a' sd' : Nat) (w : World) (hm : 2 ≤ m) (hm2 : m ≤ 256) (hb : Src w g A n c a sd) (h : U8s w B A n ys) (hB : B ≤ g) (hn : n ≤ 1048576) (ha : a ≤ 1048576) (hs : sd < 2147483648)
    (HP : byteP ys a sd = (b, a', sd')) :
    Calls Try.prog 149 #[.pointer (some ⟨g, 0, none⟩), .int .i64 m] w fun e w' => e = .returned (.int .i64 ((b % m : Nat) : Int)) ∧ Src w' g A n c a' sd' ∧ Rg g (g + 1) w w' := by
  have HH := Lib.hid HP
  have hb2 := (byteP_lt h.2.1 hs HP).1
  clear HP
  go_enter Try.func149, Try.ntmps149
  go_wp2_with fail
  refine (byte_c g A n c a sd B ys b a' sd' _ hb h hB hn ha hs HH.out).mono ?_
  rintro e w1 ⟨rfl, h1, hr⟩
  go_wp2
  go_ret
  exact ⟨ret_int (by omega), h1, hr⟩

set_option maxRecDepth 100000 in
set_option maxHeartbeats 1000000 in
theorem chance_c (m g : Nat) (A : Option Addr) (n c a sd B : Nat) (ys : List Nat) (b a' sd' : Nat) (w : World) (hm : 2 ≤ m) (hm2 : m ≤ 256) (hb : Src w g A n c a sd) (h : U8s w B A n ys) (hB : B ≤ g) (hn : n ≤ 1048576) (ha : a ≤ 1048576) (hs : sd < 2147483648)
    (HP : byteP ys a sd = (b, a', sd')) :
    Calls Try.prog 150 #[.pointer (some ⟨g, 0, none⟩), .int .i64 m] w fun e w' => e = .returned (.bool (decide (b % m = m - 1))) ∧ Src w' g A n c a' sd' ∧ Rg g (g + 1) w w' := by
  have HH := Lib.hid HP
  have hb2 := (byteP_lt h.2.1 hs HP).1
  clear HP
  go_enter Try.func150, Try.ntmps150
  go_wp2_with fail
  refine (next_c m g A n c a sd B ys b a' sd' _ hm hm2 hb h hB hn ha hs HH.out).mono ?_
  rintro e w1 ⟨rfl, h1, hr⟩
  go_wp2
  all_goals (go_ret; refine ⟨ret_bool ?_, h1, hr⟩; rw [Bool.eq_iff_iff]; simp; omega)

set_option maxRecDepth 100000 in
set_option maxHeartbeats 1000000 in
theorem l00Source_c (A : Option Addr) (n c : Nat) (w : World) (hn : n ≤ 1048576) :
    Calls Try.prog 105 #[.slice A n c] w fun e w' => e = .returned (.pointer (some ⟨w.heap.size, 0, none⟩)) ∧ Src w' w.heap.size A n c 0 (n % 1000) ∧ Nx w w' := by
  go_enter Try.func105, Try.ntmps105
  go_wp2
  go_ret
  refine ⟨rfl, ?_, (Nx.refl w).alloc _⟩
  unfold Src
  rw [show (((n % 1000 : Nat) : Int)) = (n : Int) % 1000 from by omega]
  exact Box.new w _ _
end Go.Proofs.Ytihpadelfpogmaa
/- A list of bytes that comes in, opened. Conditions: none. -/
namespace Go.Proofs.Ytihpadelfpogmaa
set_option linter.unusedVariables false
set_option maxRecDepth 100000
open Go.ChangeShapes Go.WideShapes Go.RowKit Go.Deep

theorem addr_plain8 {w : World} {a : Addr} {v : Value} (h : w.cell? (a.add 0) = some v) : ∃ b off, a = ⟨b, off, none⟩ ∧ b < w.heap.size := by
  have h' : w.cell? a = some v := by simpa [Addr.add] using h
  have hs := World.cell?_spot h'
  obtain ⟨b, off, sp⟩ := a
  simp only at hs
  subst hs
  exact ⟨b, off, rfl, World.block_lt_of_cell? w _ h'⟩
theorem addr_add8 (b off i : Nat) : (Addr.mk b off none).add i = ⟨b, off + i, none⟩ := by
  unfold Addr.add
  by_cases h : i = 0
  · subst h; simp
  · simp [h]
theorem c5_ : Try.prog.cellsOf 5 = 1 := by kernel_rfl
theorem u8_wf {n : Int} (h : (Lit.int .u8 n).wf = true) : 0 ≤ n ∧ n < 256 := by
  have h2 : IntKind.u8.min ≤ n ∧ n ≤ IntKind.u8.max := by simpa [Lit.wf] using h
  have e1 : IntKind.u8.min = 0 := by decide
  have e2 : IntKind.u8.max = 255 := by decide
  omega
set_option maxRecDepth 100000 in
theorem open_u8s_ {H : Type} {enc : TypeId × Value → H} {w : World} {base : Nat} {spare : Nat → Bool} {held : Bool} {r : Reach} {b0 : Nat} {v : Value} {d : DataW H} {p : List MemPlace}
    (hv : Value.okWide Try.prog w r b0 69 v) (h : DataW.Trod enc Try.prog w base spare held 69 v d p) :
    ∃ (A : Option Addr) (n c : Nat) (ys : List Nat), v = .slice A n c ∧ U8s w w.heap.size A n ys ∧ n ≤ 2 ^ 63 - 1 := by
  obtain ⟨a0, len0, cap0, rfl⟩ := okWide_slice Try.underlying69 hv
  obtain ⟨fuel, hf⟩ := h
  rcases open_slice Try.underlying69 hf with ⟨hcs, _⟩ | ⟨a, len, cap, m, n, D, Pl, hcs, _, hl, hm, hmm, _, hi⟩
  · simp [Value.cells] at hcs
    obtain ⟨rfl, rfl, rfl⟩ := hcs
    exact ⟨none, 0, 0, [], rfl, ⟨rfl, fun i => by simp, fun hn => absurd hn (by omega)⟩, by omega⟩
  · simp [Value.cells] at hcs
    obtain ⟨rfl, rfl, rfl⟩ := hcs
    have hle : len0 ≤ m := by rw [hmm]; split <;> omega
    unfold maxLen at hm
    have key : ∀ i, ∃ q : Nat, q < 256 ∧ (i < m → w.cell? (a.add i) = some (.int .u8 (q : Int))) := by
      intro i
      by_cases him : i < m
      · obtain ⟨cs', hc, ht⟩ := hi i him
        rw [c5_, Nat.mul_one] at hc
        obtain ⟨_, hcl, hat⟩ := World.cells?_some hc
        obtain ⟨q, e, _, hw⟩ := DataW.trod_int Try.underlying5 ht
        subst e
        obtain ⟨h1, h2⟩ := u8_wf hw
        refine ⟨q.toNat, by omega, fun _ => ?_⟩
        have := hat 0 (by omega)
        rw [show ((q.toNat : Nat) : Int) = q by omega]
        simpa [Addr.add] using this
      · exact ⟨0, by omega, fun h => absurd h him⟩
    obtain ⟨g, hg⟩ := Classical.skolem.1 key
    refine ⟨some a, len0, cap0, (List.range len0).map g, rfl, ⟨by simp, fun i => ?_, fun hn => ?_⟩, by omega⟩
    · rw [List.getD_eq_getElem?_getD, List.getElem?_map]
      by_cases hi' : i < len0
      · rw [List.getElem?_range hi']; exact (hg i).1
      · rw [List.getElem?_eq_none (by simpa using hi')]; simp
    · obtain ⟨b, off, rfl, hb⟩ := addr_plain8 ((hg 0).2 (by omega))
      refine ⟨b, off, rfl, hb, fun i hi => ?_⟩
      have h1 := (hg i).2 (by omega)
      rw [addr_add8] at h1
      rw [h1]
      unfold u8At
      rw [List.getD_eq_getElem?_getD, List.getElem?_map, List.getElem?_range hi]; rfl
end Go.Proofs.Ytihpadelfpogmaa
/- A source of choices of which only the reach is known; drawn frames. Conditions: the code can be read, and holds at most 1048576 bytes. -/
namespace Go.Proofs.Ytihpadelfpogmaa
set_option linter.unusedVariables false
set_option maxRecDepth 100000
open Go.RowKit

theorem Rg.setNew8 {lo hi : Nat} {a w : World} (h : Rg lo hi a w) {p : Addr} (h1 : a.heap.size ≤ p.block) (v : Value) : Rg lo hi a (w.setCell p v) := ⟨h.os, h.tape, h.output, by have := h.size; simp only [World.setCell, Array.size_modify]; exact this, fun k hk hr => (Below.heap_setCell _ _ _ _ (by omega)).trans (h.block k hk hr)⟩
/-- A source, at most k bytes on. -/
def SrcR (w : World) (g : Nat) (A : Option Addr) (n c k : Nat) : Prop := ∃ a sd, a ≤ k ∧ sd < 2147483648 ∧ Src w g A n c a sd
theorem SrcR.nx {w w' : World} {g n c k : Nat} {A : Option Addr} (h : SrcR w g A n c k) (hb : Nx w w') : SrcR w' g A n c k := by
  obtain ⟨a, sd, h1, h2, h3⟩ := h
  unfold Src at h3
  exact ⟨a, sd, h1, h2, h3.nx hb⟩
theorem SrcR.lt {w : World} {g n c k : Nat} {A : Option Addr} (h : SrcR w g A n c k) : g < w.heap.size := by
  obtain ⟨a, sd, h1, h2, h3⟩ := h
  unfold Src at h3
  exact h3.lt
theorem SrcR.more {w : World} {g n c k k' : Nat} {A : Option Addr} (h : SrcR w g A n c k) (hk : k ≤ k') : SrcR w g A n c k' := by
  obtain ⟨a, sd, h1, h2, h3⟩ := h
  exact ⟨a, sd, by omega, h2, h3⟩
def RetV (m : Nat) (g : Nat) (A : Option Addr) (n c k : Nat) (w : World) (e : Ending) (w' : World) : Prop :=
  ∃ v : Nat, e = .returned (.int .i64 (v : Int)) ∧ v < m ∧ SrcR w' g A n c (k + 3) ∧ Rg g (g + 1) w w'
set_option maxHeartbeats 1000000 in
theorem byteR_c (g : Nat) (A : Option Addr) (n c k B : Nat) (ys : List Nat) (w : World) (hb : SrcR w g A n c k) (h : U8s w B A n ys) (hB : B ≤ g) (hn : n ≤ 1048576) (hk : k ≤ 1048576) :
    Calls Try.prog 162 #[.pointer (some ⟨g, 0, none⟩)] w fun e w' => ∃ b : Nat, e = .returned (.int .i64 b) ∧ b < 256 ∧ SrcR w' g A n c (k + 1) ∧ Rg g (g + 1) w w' := by
  obtain ⟨a, sd, h1, h2, h3⟩ := hb
  obtain ⟨⟨b, a', sd'⟩, HP⟩ : ∃ x, byteP ys a sd = x := ⟨_, rfl⟩
  obtain ⟨k1, k2, k3⟩ := byteP_lt h.2.1 h2 HP
  exact (byte_c g A n c a sd B ys b a' sd' w h3 h hB hn (by omega) h2 HP).mono fun e w' ⟨he, hs, hr⟩ => ⟨b, he, k1, ⟨a', sd', by omega, k3, hs⟩, hr⟩
set_option maxRecDepth 100000 in
set_option maxHeartbeats 1000000 in
theorem nextR_c (m g : Nat) (A : Option Addr) (n c k B : Nat) (ys : List Nat) (w : World) (hm : 2 ≤ m) (hm2 : m ≤ 100000) (hb : SrcR w g A n c k) (h : U8s w B A n ys) (hB : B ≤ g) (hn : n ≤ 1048576) (hk : k + 3 ≤ 1048576) :
    Calls Try.prog 149 #[.pointer (some ⟨g, 0, none⟩), .int .i64 m] w (RetV m g A n c k w) := by
  by_cases h256 : m ≤ 256
  · obtain ⟨a, sd, h1, h2, h3⟩ := hb
    obtain ⟨⟨b, a', sd'⟩, HP⟩ : ∃ x, byteP ys a sd = x := ⟨_, rfl⟩
    obtain ⟨k1, k2, k3⟩ := byteP_lt h.2.1 h2 HP
    exact (next_c m g A n c a sd B ys b a' sd' w hm h256 h3 h hB hn (by omega) h2 HP).mono fun e w' ⟨he, hs, hr⟩ => ⟨b % m, he, Nat.mod_lt _ (by omega), ⟨a', sd', by omega, k3, hs⟩, hr⟩
  · go_enter Try.func149, Try.ntmps149
    go_wp2_with fail
    refine (byteR_c g A n c k B ys _ hb h hB hn (by omega)).mono ?_
    rintro e w1 ⟨x, rfl, hx, h1, hr1⟩
    have hu1 := h.rg hr1 hB (Nat.le_of_lt hb.lt)
    go_wp2_with fail
    refine (byteR_c g A n c (k + 1) B ys _ h1 hu1 hB hn (by omega)).mono ?_
    rintro e w2 ⟨y, rfl, hy, h2, hr2⟩
    have hu2 := hu1.rg hr2 hB (Nat.le_of_lt h1.lt)
    go_wp2_with fail
    refine (byteR_c g A n c (k + 1 + 1) B ys _ h2 hu2 hB hn (by omega)).mono ?_
    rintro e w3 ⟨z, rfl, hz, h3, hr3⟩
    go_wp2
    go_ret
    exact ⟨(x * 65536 + y * 256 + z) % m, ret_int (by rw [show (x : Int) * 65536 + (y : Int) * 256 + (z : Int) = ((x * 65536 + y * 256 + z : Nat) : Int) by omega, ← Int.natCast_emod]), Nat.mod_lt _ (by omega), h3, (hr1.trans hr2).trans hr3⟩
set_option maxRecDepth 100000 in
set_option maxHeartbeats 2000000 in
theorem frameN_c (g : Nat) (A : Option Addr) (n c B : Nat) (ys : List Nat) (w : World) (hb : SrcR w g A n c 0) (h : U8s w B A n ys) (hB : B ≤ g) (hn : n ≤ 1048576) :
    Calls Try.prog 118 #[.pointer (some ⟨g, 0, none⟩)] w fun e w' => ∃ q0 q1 q2 q3 : Nat, e = .returned (.agg #[.int .i64 q0, .int .i64 q1, .int .i64 q2, .int .i64 q3]) ∧ (1 ≤ q0 ∧ q0 ≤ 20 ∧ q1 < 8 ∧ q2 < 900 ∧ q3 < 200) ∧ Rg g (g + 1) w w' := by
  have hz0 := hb.lt
  have b0 := Box.new w 58 #[.int .i64 0, .int .i64 0, .int .i64 0, .int .i64 0]
  have hx0 := (Nx.refl w).alloc (.cells #[.int .i64 0, .int .i64 0, .int .i64 0, .int .i64 0] 58)
  have s0 := hb.nx hx0
  have u0 := h.below hx0 (by omega)
  have r0 : Rg g (g + 1) w (w.alloc (.cells #[.int .i64 0, .int .i64 0, .int .i64 0, .int .i64 0] 58)) := Rg.of_nx hx0
  clear hb h hx0
  go_enter Try.func118, Try.ntmps118
  go_wp2_with fail
  generalize w.alloc (.cells #[.int .i64 0, .int .i64 0, .int .i64 0, .int .i64 0] 58) = W at *
  refine (nextR_c 20 g A n c 0 B ys _ (by omega) (by omega) s0 u0 hB hn (by omega)).mono ?_
  rintro e w1 ⟨v0, rfl, hv0, s1, r1⟩
  have b1 := b0.rg r1 (.inr (by omega))
  have u1 := u0.rg r1 hB (Nat.le_of_lt s0.lt)
  have t1 := r0.trans r1
  clear b0 u0 r0 r1 s0
  go_wp2_with fail
  refine (nextR_c 8 g A n c (0 + 3) B ys _ (by omega) (by omega) s1 u1 hB hn (by omega)).mono ?_
  rintro e w2 ⟨v1, rfl, hv1, s2, r2⟩
  have b2 := b1.rg r2 (.inr (by omega))
  have u2 := u1.rg r2 hB (Nat.le_of_lt s1.lt)
  have t2 := t1.trans r2
  clear b1 u1 t1 r2 s1
  go_wp2_with fail
  refine (nextR_c 900 g A n c (0 + 3 + 3) B ys _ (by omega) (by omega) s2 u2 hB hn (by omega)).mono ?_
  rintro e w3 ⟨v2, rfl, hv2, s3, r3⟩
  have b3 := b2.rg r3 (.inr (by omega))
  have u3 := u2.rg r3 hB (Nat.le_of_lt s2.lt)
  have t3 := t2.trans r3
  clear b2 u2 t2 r3 s2
  go_wp2_with fail
  refine (nextR_c 200 g A n c (0 + 3 + 3 + 3) B ys _ (by omega) (by omega) s3 u3 hB hn (by omega)).mono ?_
  rintro e w4 ⟨v3, rfl, hv3, s4, r4⟩
  have b4 := b3.rg r4 (.inr (by omega))
  have t4 := t3.trans r4
  clear b3 u3 t3 r4 s3
  obtain ⟨c0, c1, c2, c3⟩ := b4.d4
  have f0 := b4.frozen 0
  have f1 := b4.frozen 1
  have f2 := b4.frozen 2
  have f3 := b4.frozen 3
  go_wp2
  have q := put4_box b4 (.int .i64 (1 + (v0 : Int))) (.int .i64 v1) (.int .i64 v2) (.int .i64 v3)
  have hnf := (((t4.setNew8 (p := ⟨w.heap.size, 0, none⟩) (Nat.le_refl _) (.int .i64 (1 + (v0 : Int)))).setNew8 (p := ⟨w.heap.size, 1, none⟩) (Nat.le_refl _) (.int .i64 v1)).setNew8 (p := ⟨w.heap.size, 2, none⟩) (Nat.le_refl _) (.int .i64 v2)).setNew8 (p := ⟨w.heap.size, 3, none⟩) (Nat.le_refl _) (.int .i64 v3)
  change Rg _ _ _ (put4 w4 w.heap.size (.int .i64 (1 + (v0 : Int))) (.int .i64 v1) (.int .i64 v2) (.int .i64 v3)) at hnf
  change bodyPost _ _ _ _ _ (put4 w4 w.heap.size (.int .i64 (1 + (v0 : Int))) (.int .i64 v1) (.int .i64 v2) (.int .i64 v3))
  generalize put4 w4 w.heap.size (.int .i64 (1 + (v0 : Int))) (.int .i64 v1) (.int .i64 v2) (.int .i64 v3) = Wf at *
  obtain ⟨g0, g1, g2, g3⟩ := q.d4
  refine bodyPost_ret (v := .agg #[.int .i64 (1 + (v0 : Int)), .int .i64 v1, .int .i64 v2, .int .i64 v3]) (by simp [results, Try.results118, go_sem, g0, g1, g2, g3]) rfl ⟨1 + v0, v1, v2, v3, ?_, by omega, hnf⟩
  rw [show (1 : Int) + (v0 : Int) = ((1 + v0 : Nat) : Int) by omega]
set_option maxRecDepth 100000 in
set_option maxHeartbeats 1000000 in
theorem frameDrawnN_c (A : Option Addr) (n c : Nat) (ys : List Nat) (w : World) (h : U8s w w.heap.size A n ys) (hn : n ≤ 1048576) :
    Calls Try.prog 55 #[.slice A n c] w fun e w' => ∃ q0 q1 q2 q3 : Nat, e = .returned (.agg #[.int .i64 q0, .int .i64 q1, .int .i64 q2, .int .i64 q3]) ∧ (1 ≤ q0 ∧ q0 ≤ 20 ∧ q1 < 8 ∧ q2 < 900 ∧ q3 < 200) ∧ Nx w w' := by
  go_enter Try.func55, Try.ntmps55
  go_wp2_with fail
  have b0 := Box.new w 58 #[.int .i64 0, .int .i64 0, .int .i64 0, .int .i64 0]
  have hx0 := (Nx.refl w).alloc (.cells #[.int .i64 0, .int .i64 0, .int .i64 0, .int .i64 0] 58)
  have u0 := h.below hx0 (Nat.le_refl _)
  generalize w.alloc (.cells #[.int .i64 0, .int .i64 0, .int .i64 0, .int .i64 0] 58) = W at *
  have hz := b0.lt
  refine (l00Source_c A n c _ hn).mono ?_
  rintro e w1 ⟨rfl, s1, hnx1⟩
  have u1 := u0.below hnx1 (by omega)
  go_wp2_with fail
  refine (frameN_c W.heap.size A n c w.heap.size ys _ ⟨0, n % 1000, by omega, by omega, s1⟩ u1 (by omega) hn).mono ?_
  rintro e w2 ⟨q0, q1, q2, q3, rfl, hf, r2⟩
  have HF := Lib.hid hf
  clear hf
  have b2 := (b0.nx hnx1).rg r2 (.inl hz)
  have hx2 := Rg.nx_of (hx0.trans hnx1) r2 (by omega)
  clear u0 u1 b0 hx0 hnx1 r2 s1
  obtain ⟨c0, c1, c2, c3⟩ := b2.d4
  have f0 := b2.frozen 0
  have f1 := b2.frozen 1
  have f2 := b2.frozen 2
  have f3 := b2.frozen 3
  go_wp2
  have q := put4_box b2 (.int .i64 q0) (.int .i64 q1) (.int .i64 q2) (.int .i64 q3)
  have hnf := put4_nx hx2 (Nat.le_refl w.heap.size) (.int .i64 q0) (.int .i64 q1) (.int .i64 q2) (.int .i64 q3)
  change bodyPost _ _ _ _ _ (put4 w2 w.heap.size (.int .i64 q0) (.int .i64 q1) (.int .i64 q2) (.int .i64 q3))
  generalize put4 w2 w.heap.size (.int .i64 q0) (.int .i64 q1) (.int .i64 q2) (.int .i64 q3) = Wf at *
  obtain ⟨g0, g1, g2, g3⟩ := q.d4
  exact bodyPost_ret (v := .agg #[.int .i64 q0, .int .i64 q1, .int .i64 q2, .int .i64 q3]) (by simp [results, Try.results55, go_sem, g0, g1, g2, g3]) rfl ⟨q0, q1, q2, q3, rfl, HF.out, hnf⟩
end Go.Proofs.Ytihpadelfpogmaa
/- Rows of ints of the call's own that grow by one. Conditions: at most 1048576 elements. -/
namespace Go.Proofs.Ytihpadelfpogmaa
set_option linter.unusedVariables false
set_option maxRecDepth 100000
open Go.RowKit

def iV (xs : List Int) : List Value := xs.map fun x => .int .i64 x
theorem iV_get (xs : List Int) (i : Nat) (h : i < xs.length) : (iV xs)[i]? = some (inAt xs i) := by
  unfold iV inAt
  rw [List.getElem?_map, List.getElem?_eq_getElem h, List.getD_eq_getElem?_getD, List.getElem?_eq_getElem h]; rfl
/-- A row of ints of the call's own, from block B on. -/
def RowI (w : World) (B : Nat) (v : Value) (xs : List Int) : Prop := w.ownsRow B 3 1 v xs.length (iV xs)
theorem RowI.new (w : World) {B : Nat} (hB : B ≤ w.heap.size) : RowI (w.alloc (.cells #[] 3)) B (.slice (some ⟨w.heap.size, 0, none⟩) 0 0) [] :=
  ⟨rfl, .inr ⟨_, 0, #[], rfl, hB, heap_alloc_new w _, by simp, by unfold maxLen; omega, rfl, rfl⟩⟩
theorem RowI.sl {w : World} {B : Nat} {v : Value} {xs : List Int} (h : RowI w B v xs) : ∃ A c, v = .slice A xs.length c ∧ Sl w B A 3 xs.length (inAt xs) := by
  rcases h.2 with ⟨rfl, h0⟩ | ⟨g, cap, cur, rfl, hb, hg, hnc, _, hcs, htk⟩
  · exact ⟨none, 0, by rw [h0], fun hn => by omega⟩
  · refine ⟨_, cap, rfl, Sl.own ⟨cur, hg, by omega, fun i hi => ?_⟩ hb⟩
    have h1 : (cur.toList.take (xs.length * 1))[i]? = some (inAt xs i) := by rw [htk]; exact iV_get xs i hi
    rw [List.getElem?_take_of_lt (by omega)] at h1
    simpa using h1
theorem RowI.nx {w w' : World} {B : Nat} {v : Value} {xs : List Int} (h : RowI w B v xs) (hb : Nx w w') : RowI w' B v xs := by
  refine World.ownsRow.kept (row := none) h ⟨hb.os, hb.tape, hb.output, hb.size, fun i hi _ => hb.block i hi⟩ ?_
  cases hv : v.ownBlock with
  | none => exact .inl rfl
  | some g => exact .inr (by simp)
theorem RowI.rg {w w' : World} {B lo hi : Nat} {v : Value} {xs : List Int} (h : RowI w B v xs) (hr : Rg lo hi w w') (hh : hi ≤ B) : RowI w' B v xs := by
  rcases h.2 with ⟨rfl, h0⟩ | ⟨g, cap, cur, rfl, hb, hg, r⟩
  · exact ⟨h.1, .inl ⟨rfl, h0⟩⟩
  · have hlt := (World.ownsRow.lt h g rfl).2
    exact ⟨h.1, .inr ⟨g, cap, cur, rfl, hb, (hr.block g hlt (.inr (by omega))).trans hg, r⟩⟩
theorem RowI.ne {w : World} {B g : Nat} {v : Value} {xs : List Int} {t : TypeId} {ys : Array Value} (h : RowI w B v xs) (hb : Box w g t ys) (ht : t ≠ 3) : some g ≠ v.ownBlock := by
  intro he
  rcases h.2 with ⟨rfl, _⟩ | ⟨g', cap, cur, rfl, _, hg, _⟩
  · simp [Value.ownBlock] at he
  · obtain rfl : g = g' := by simpa [Value.ownBlock] using he
    unfold Box at hb
    rw [hg] at hb
    injection hb with hb
    injection hb with _ hb
    exact ht hb.symm
/-- What an append leaves as it is: blocks below B, and known blocks of another type. -/
structure GrewT (t : TypeId) (B : Nat) (w w' : World) : Prop where
  nx : ∀ a, Nx a w → a.heap.size ≤ B → Nx a w'
  rg : ∀ lo hi a, Rg lo hi a w → a.heap.size ≤ B → Rg lo hi a w'
  box : ∀ g t' xs, t' ≠ t → Box w g t' xs → Box w' g t' xs
  size : w.heap.size ≤ w'.heap.size
set_option maxHeartbeats 1000000 in
/-- append of one int at the operation, for the walk. -/
theorem wpList_addI {w : World} {ops : Array Oper} {rest : List Oper} {o : Oper} {a : Act} {Q : Exit → Act → World → Prop}
    (hgd : o.guard = none) (s x : Operand) (ho : o.op = .call { callee := .builtin .append, args := #[s, x], argTypes := #[22, 22] })
    (B gd : Nat) (v : Value) (xs : List Int) (x0 : Int) (hs : a.eval s = v) (hx : a.eval x = .slice (some ⟨gd, 0, none⟩) 1 1) (hown : RowI w B v xs) (hbx : Box w gd 3 #[.int .i64 x0])
    (hl : xs.length ≤ 1048576) (hB : B ≤ w.heap.size)
    (hK : ∀ A' k' w', RowI w' B (.slice A' (xs.length + 1) k') (xs ++ [x0]) → GrewT 3 B w w' → wpList Try.prog ops Q rest (a.put o.dst (.slice A' (xs.length + 1) k')) w') :
    wpList Try.prog ops Q (o :: rest) a w := by
  obtain ⟨i0, hi0, hz0, hz1, hz2⟩ := info_parts info_int
  refine wpList_append_own w hgd s x 22 ho B 3 i0 _ 1 8 Try.underlying22 hi0 hz0 hz1 hz2 rfl (by omega) v xs.length _ hs hown ⟨gd, 0, none⟩ 1 1 [.int .i64 x0] hx rfl (fun j u hj => ?_) (fun u hu => by simp only [List.mem_cons, List.not_mem_nil, or_false] at hu; rcases hu with rfl; rfl) (by unfold maxLen; omega) (by omega) hB ?_
  · rw [addr_add', Nat.zero_add, hbx.cell j]
    rw [← hj]
    rcases j with _ | j <;> simp
  · intro v' w' hw' hg' _
    have hr : RowI w' B v' (xs ++ [x0]) := by
      unfold RowI iV
      rw [List.map_append, List.length_append]
      exact hw'
    obtain ⟨A', k', rfl, _⟩ := hr.sl
    rw [List.length_append] at hr ⊢
    have hrow : ∀ k, Value.ownBlock v = some k → B ≤ k := fun k hk => (World.ownsRow.lt hown k hk).1
    refine hK A' k' w' hr ⟨fun b hb hbB => Below.grown hb hg' hb.size (fun k hk => Nat.le_trans hbB (hrow k hk)), fun lo hi b hb hbB => ?_, fun g t xs' ht hbg => hbg.grown hg' (hown.ne hbg ht), hg'.size⟩
    refine ⟨hg'.os.trans hb.os, hg'.tape.trans hb.tape, hg'.output.trans hb.output, Nat.le_trans hb.size hg'.size, fun k hk hr => (hg'.block k (Nat.lt_of_lt_of_le hk hb.size) fun e => ?_).trans (hb.block k hk hr)⟩
    have := hrow k e.symm
    omega
theorem RowI.nil (w : World) (B : Nat) : RowI w B (.slice none 0 0) [] := ⟨rfl, .inl ⟨rfl, rfl⟩⟩
theorem RowI.slc {w : World} {B : Nat} {v : Value} {xs : List Int} (h : RowI w B v xs) : ∃ A c, v = .slice A xs.length c ∧ xs.length ≤ c ∧ Sl w B A 3 xs.length (inAt xs) := by
  rcases h.2 with ⟨rfl, h0⟩ | ⟨g, cap, cur, rfl, hb, hg, hnc, _, hcs, htk⟩
  · exact ⟨none, 0, by rw [h0], by omega, fun hn => by omega⟩
  · refine ⟨_, cap, rfl, by omega, Sl.own ⟨cur, hg, by omega, fun i hi => ?_⟩ hb⟩
    have h1 : (cur.toList.take (xs.length * 1))[i]? = some (inAt xs i) := by rw [htk]; exact iV_get xs i hi
    rw [List.getElem?_take_of_lt (by omega)] at h1
    simpa using h1
end Go.Proofs.Ytihpadelfpogmaa
/- Rows of ints of the call's own that grow by one; drawn contents. Conditions: the code can be read, and holds at most 1048576 bytes. -/
namespace Go.Proofs.Ytihpadelfpogmaa
set_option linter.unusedVariables false
set_option maxRecDepth 100000
open Go.RowKit

end Go.Proofs.Ytihpadelfpogmaa
/- Drawn contents: eight values below 90. Conditions: the code can be read, and holds at most 1048576 bytes. -/
namespace Go.Proofs.Ytihpadelfpogmaa
set_option linter.unusedVariables false
set_option maxRecDepth 100000
open Go.RowKit

def Sm (xs : List Int) : Prop := ∀ x ∈ xs, 0 ≤ x ∧ x < 90
theorem Sm.add {xs : List Int} (h : Sm xs) {v : Nat} (hv : v < 90) : Sm (xs ++ [(v : Int)]) := fun x hx => by
  rcases List.mem_append.1 hx with hx | hx
  · exact h x hx
  · simp only [List.mem_singleton] at hx
    subst hx
    omega
theorem Sm.cont {xs : List Int} (h : Sm xs) (hl : xs.length = 8) : contB xs = true := by
  unfold contB
  rw [decide_eq_true hl, List.all_eq_true.2 fun x hx => by have := h x hx; unfold inB; simp; omega]; rfl
theorem SrcR.rgO {w w' : World} {B : Nat} {g n c k : Nat} {A : Option Addr} (h : SrcR w g A n c k) (hb : GrewT 3 B w w') : SrcR w' g A n c k := by
  obtain ⟨a, sd, h1, h2, h3⟩ := h
  unfold Src at h3
  exact ⟨a, sd, h1, h2, hb.box _ _ _ (by decide) h3⟩
set_option maxRecDepth 100000 in
set_option maxHeartbeats 2000000 in
theorem content_c (g : Nat) (A : Option Addr) (n c B k0 : Nat) (ys : List Nat) (w : World) (hb : SrcR w g A n c k0) (h : U8s w B A n ys) (hB : B ≤ g) (hn : n ≤ 1048576) (hk0 : k0 ≤ 1000000) :
    Calls Try.prog 107 #[.pointer (some ⟨g, 0, none⟩)] w fun e w' => ∃ A' c' xs, e = .returned (.slice A' 8 c') ∧ xs.length = 8 ∧ Sm xs ∧ SlI w' w.heap.size A' xs ∧ SrcR w' g A n c (k0 + 24) ∧ Rg g (g + 1) w w' := by
  have hz0 := hb.lt
  have hrow0 := RowI.new w (Nat.le_refl _)
  have hx0 := (Nx.refl w).alloc (.cells #[] 3)
  go_enter Try.func107, Try.ntmps107
  go_wp2_with fail
  go_loopw [3, 4] (fun v i wr => ∃ (k : Nat) (xs : List Int), k ≤ 8 ∧ i = .int .i64 k ∧ xs.length = k ∧ Sm xs ∧ (∃ u, u = v ∧ RowI wr w.heap.size u xs) ∧ SrcR wr g A n c (k0 + 3 * k) ∧ Rg g (g + 1) w wr) (fun _ i _ => 8 - (intOf i).toNat)
  case atStart => exact ⟨0, [], by omega, rfl, rfl, (fun x hx => by cases hx), ⟨_, rfl, hrow0⟩, (hb.nx hx0).more (by omega), Rg.of_nx hx0⟩
  case round =>
    obtain ⟨k, xs, hk, rfl, hl, hsm, ⟨u, rfl, hrow⟩, hs, hrg⟩ := hrel
    clear hrow0 hx0
    by_cases hlt : k < 8
    case neg =>
      obtain rfl : k = 8 := by omega
      obtain ⟨A', c', rfl, hS⟩ := hrow.sl
      rw [hl]
      go_wp2
      go_ret
      exact ⟨A', c', xs, rfl, hl, hsm, hS, hs.more (by omega), hrg⟩
    have hu := h.rg hrg hB (Nat.le_of_lt hz0)
    go_wp2_with fail
    refine (nextR_c 90 g A n c (k0 + 3 * k) B ys _ (by omega) (by omega) hs hu hB hn (by omega)).mono ?_
    rintro e w1 ⟨v, rfl, hv, hs1, hr1⟩
    have hx1 := (Nx.refl w1).alloc (.cells #[.int .i64 (v : Int)] 3)
    have hbx := Box.new w1 3 #[.int .i64 (v : Int)]
    have hrow1 := (hrow.rg hr1 (by omega)).nx hx1
    have hs2 := hs1.nx hx1
    have hr2 := (hrg.trans hr1).trans (Rg.of_nx (lo := g) (hi := g + 1) hx1)
    have hsz := Nat.le_trans hr2.size (Nat.le_refl _)
    have HR := Lib.hid hrow1
    have HB := Lib.hid hbx
    have HL := Lib.hid hl
    clear hrow hrow1 hbx hs hs1 hu hl hrg hr1
    go_wp2_with (at_builtin; refine wpList_addI rfl _ _ rfl w.heap.size w1.heap.size _ xs (v : Int) rfl rfl HR.out HB.out (by have := HL.out; omega) hsz ?_)
    intro A' k' w2 hrow2 hgr
    go_wp2
    go_roundw
    case rel => exact ⟨k + 1, xs ++ [(v : Int)], by omega, by go_num, by rw [List.length_append, HL.out]; rfl, hsm.add hv, ⟨_, rfl, hrow2⟩, (hs2.rgO hgr).more (by omega), hgr.rg _ _ _ hr2 (Nat.le_refl _)⟩
    case measure => simp [intOf]; omega
end Go.Proofs.Ytihpadelfpogmaa
/- Contracts of the laws' functions sameSeg, at, sameInts, and of the model's ContentDrawn. Conditions: what is read can be read, and has at most 1048576 elements. -/
namespace Go.Proofs.Ytihpadelfpogmaa
set_option linter.unusedVariables false
set_option maxRecDepth 100000
open Go.RowKit

set_option maxRecDepth 100000 in
set_option maxHeartbeats 1000000 in
theorem sameSegP_c (f t m : Int) (A A2 : Option Addr) (c c2 B : Nat) (cs : List Chg) (w : World) (h : Chs w B A cs) (h2 : Chs w B A2 cs) (hB : B ≤ w.heap.size) (hn : cs.length ≤ 1048576) :
    Calls Try.prog 58 #[.agg #[.int .i64 f, .int .i64 t, .int .i64 m, .slice A cs.length c], .agg #[.int .i64 f, .int .i64 t, .int .i64 m, .slice A2 cs.length c2]] w fun e w' => e = .returned (.bool true) ∧ Nx w w' := by
  have b0 := (Box.new w 54 #[.int .i64 f, .int .i64 t, .int .i64 m, .slice A cs.length c]).alloc (.cells #[.int .i64 f, .int .i64 t, .int .i64 m, .slice A2 cs.length c2] 54)
  have b2 := Box.new (w.alloc (.cells #[.int .i64 f, .int .i64 t, .int .i64 m, .slice A cs.length c] 54)) 54 #[.int .i64 f, .int .i64 t, .int .i64 m, .slice A2 cs.length c2]
  simp only [World.size_alloc] at b2
  have hx0 := ((Nx.refl w).alloc (.cells #[.int .i64 f, .int .i64 t, .int .i64 m, .slice A cs.length c] 54)).alloc (.cells #[.int .i64 f, .int .i64 t, .int .i64 m, .slice A2 cs.length c2] 54)
  go_enter Try.func58, Try.ntmps58
  go_wp2
  generalize (w.alloc (.cells #[.int .i64 f, .int .i64 t, .int .i64 m, .slice A cs.length c] 54)).alloc (.cells #[.int .i64 f, .int .i64 t, .int .i64 m, .slice A2 cs.length c2] 54) = W at *
  have k1 := h.below hx0 hB
  have k2 := h2.below hx0 hB
  have hB' : B ≤ W.heap.size := Nat.le_trans hB hx0.size
  clear h h2
  go_loopw [5] (fun i wr => ∃ k : Nat, k ≤ cs.length ∧ i = .int .i64 k ∧ Nx W wr) (fun i _ => cs.length - (intOf i).toNat)
  case atStart => exact ⟨0, Nat.zero_le _, rfl, Nx.refl _⟩
  case round =>
    obtain ⟨k, hk, rfl, hnx⟩ := hrel
    obtain ⟨_, _, _, c3⟩ := (b0.nx hnx).d4
    obtain ⟨_, _, _, d3⟩ := (b2.nx hnx).d4
    by_cases hlt : k < cs.length
    · obtain ⟨b, off, rfl, hb, p0, p1, p2⟩ := (k1.below hnx hB').at_ hlt
      obtain ⟨b2, off2, rfl, hb2, q0, q1, q2⟩ := (k2.below hnx hB').at_ hlt
      generalize cs.getD k chZ = s at p0 p1 p2 q0 q1 q2
      obtain ⟨x, y, z⟩ := s
      go_wp2_with fail
      go_still_tail 10, (by kernel_rfl)
      change wpList _ _ _ _ _ wr.drew
      have hnx1 : Nx W wr.drew := Below.drew hnx
      generalize wr.drew = wd at *
      go_wp2
      go_roundw
      case rel => exact ⟨k + 1, by omega, by go_num, hnx1⟩
      case measure => simp [intOf]; omega
    · go_wp2
      go_ret
      exact ⟨rfl, hx0.trans hnx⟩
/-- at: which number. -/
def atP (ys : List Nat) (n i m : Nat) : Nat := if n = 0 then i * 7 % m else (ys.getD (i % n) 0 * 31 + ys.getD ((i + 1) % n) 0 + i / n) % m
theorem atP_lt (ys : List Nat) (n i : Nat) {m : Nat} (hm : 0 < m) : atP ys n i m < m := by
  unfold atP; split <;> exact Nat.mod_lt _ hm
set_option maxRecDepth 100000 in
set_option maxHeartbeats 1000000 in
theorem atP_c (A : Option Addr) (n c i m B : Nat) (ys : List Nat) (w : World) (h : U8s w B A n ys) (hB : B ≤ w.heap.size) (hn : n ≤ 1048576) (hi : i ≤ 1000) (hm : 2 ≤ m) (hm2 : m ≤ 100000) :
    Calls Try.prog 59 #[.slice A n c, .int .i64 i, .int .i64 m] w fun e w' => e = .returned (.int .i64 ((atP ys n i m : Nat) : Int)) ∧ Nx w w' := by
  by_cases h0 : n = 0
  · subst h0
    go_enter Try.func59, Try.ntmps59
    go_wp2
    go_ret
    exact ⟨ret_int (by rw [show atP ys 0 i m = i * 7 % m from rfl, show (i : Int) * 7 = ((i * 7 : Nat) : Int) by omega, ← Int.natCast_emod]), Nx.refl _⟩
  · have hj : i % n < n := Nat.mod_lt _ (by omega)
    have hj2 : (i + 1) % n < n := Nat.mod_lt _ (by omega)
    have e1 : (i : Int).tmod (n : Int) = ((i % n : Nat) : Int) := by rw [Int.tmod_eq_emod_of_nonneg (by omega), ← Int.natCast_emod]
    have e2 : ((i : Int) + 1).tmod (n : Int) = (((i + 1) % n : Nat) : Int) := by rw [show (i : Int) + 1 = ((i + 1 : Nat) : Int) by omega, Int.tmod_eq_emod_of_nonneg (by omega), ← Int.natCast_emod]
    have e3 : (i : Int).tdiv (n : Int) = ((i / n : Nat) : Int) := by rw [Int.tdiv_eq_ediv_of_nonneg (by omega), ← Int.natCast_ediv]
    have hd : i / n ≤ 1000 := Nat.le_trans (Nat.div_le_self _ _) hi
    obtain ⟨b, off, rfl, hb, p0⟩ := h.at_ hj
    obtain ⟨b2, off2, hE, hb2, q0⟩ := h.at_ hj2
    injection hE with hE
    injection hE with hE1 hE2
    subst hE1 hE2
    have HA : Hid (atP ys n i m = (ys.getD (i % n) 0 * 31 + ys.getD ((i + 1) % n) 0 + i / n) % m) := Lib.hid (by unfold atP; rw [if_neg h0])
    obtain ⟨aa, Haa⟩ : ∃ a, Hid (atP ys n i m = a) := ⟨_, rfl⟩
    rw [Haa.out] at HA
    have hy := h.2.1 (i % n)
    have hy2 := h.2.1 ((i + 1) % n)
    generalize ys.getD (i % n) 0 = y at *
    generalize ys.getD ((i + 1) % n) 0 = y2 at *
    generalize i % n = j at *
    generalize (i + 1) % n = j2 at *
    generalize i / n = d at *
    have e4 : ((y : Int) * 31 + (y2 : Int) + (d : Int)).tmod (m : Int) = (((y * 31 + y2 + d) % m : Nat) : Int) := by rw [Int.tmod_eq_emod_of_nonneg (by omega), show (y : Int) * 31 + (y2 : Int) + (d : Int) = ((y * 31 + y2 + d : Nat) : Int) by omega, ← Int.natCast_emod]
    have e5 : ((y : Int) * 31 + (y2 : Int) + (d : Int)) % (m : Int) = (((y * 31 + y2 + d) % m : Nat) : Int) := by rw [show (y : Int) * 31 + (y2 : Int) + (d : Int) = ((y * 31 + y2 + d : Nat) : Int) by omega, ← Int.natCast_emod]
    obtain ⟨z, Hz⟩ : ∃ z, Hid ((y * 31 + y2 + d) % m = z) := ⟨_, rfl⟩
    have hz : z < m := by rw [← Hz.out]; exact Nat.mod_lt _ (by omega)
    rw [Hz.out] at e4 e5 HA
    have k1 : IntKind.i64.wrap (j : Int) = j := IntWalk.i64_in _ (by omega)
    have k2 : IntKind.i64.wrap (j2 : Int) = j2 := IntWalk.i64_in _ (by omega)
    have k3 : IntKind.i64.wrap (d : Int) = d := IntWalk.i64_in _ (by omega)
    have k4 : IntKind.i64.wrap (z : Int) = z := IntWalk.i64_in _ (by omega)
    have k5 : IntKind.i64.wrap (y : Int) = y := IntWalk.i64_in _ (by omega)
    have k6 : IntKind.i64.wrap (y2 : Int) = y2 := IntWalk.i64_in _ (by omega)
    have k7 : IntKind.i64.wrap ((y : Int) * 31) = (y : Int) * 31 := IntWalk.i64_in _ (by omega)
    have k8 : IntKind.i64.wrap ((y : Int) * 31 + (y2 : Int)) = (y : Int) * 31 + (y2 : Int) := IntWalk.i64_in _ (by omega)
    have k9 : IntKind.i64.wrap ((y : Int) * 31 + (y2 : Int) + (d : Int)) = (y : Int) * 31 + (y2 : Int) + (d : Int) := IntWalk.i64_in _ (by omega)
    have k0 : IntKind.i64.wrap ((i : Int) + 1) = (i : Int) + 1 := IntWalk.i64_in _ (by omega)
    have n0 : ((n : Int) == 0) = false := by rw [beq_eq_false_iff_ne]; omega
    have m0 : ((m : Int) == 0) = false := by rw [beq_eq_false_iff_ne]; omega
    have n1 : ¬ (n : Int) = 0 := by omega
    have m1 : ¬ (m : Int) = 0 := by omega
    have m2 : ¬ m = 0 := by omega
    have l1 : (j : Int) < (n : Int) := by omega
    have l2 : (j2 : Int) < (n : Int) := by omega
    go_enter Try.func59, Try.ntmps59
    go_wp2
    refine wp_region_lex [false, false, false, false, false, false, false, false, false, false, false, false, false, false, false, false, false, false, false, false, false, false, false, false, false, false, false] (fun w' => w'.cell? ⟨b, off + j, none⟩ = some (.int .u8 (y : Int)) ∧ w'.cell? ⟨b, off + j2, none⟩ = some (.int .u8 (y2 : Int))) (by kernel_rfl) (by kernel_rfl) rfl (by kernel_rfl) (fun _ _ d _ _ h => by cases d <;> exact h) (by exact ⟨p0, q0⟩) ?_
    repeat (first | (refine HL.take (v := ?_) (by rfl) ?_ ?_; rotate_left; (· (intro w hSw; (try dsimp only at hSw); go_simp; try with_reducible rfl)); (try simp only [Act.put, List.setIfInBounds_toArray, List.set_cons_zero, List.set_cons_succ])) | (refine HL.skip (by rfl) ?_; (try simp only [Act.put, List.setIfInBounds_toArray, List.set_cons_zero, List.set_cons_succ])))
    refine HL.done ?_
    go_wp2
    go_ret
    exact ⟨ret_int (by rw [Haa.out, HA.out]), Below.drew (Nx.refl w)⟩

set_option maxHeartbeats 1000000 in
theorem sameInts_c (A A2 : Option Addr) (c c2 B : Nat) (xs : List Int) (w : World) (h : Ins w B A xs) (h2 : Ins w B A2 xs) (hB : B ≤ w.heap.size) (hn : xs.length ≤ 1048576) :
    Calls Try.prog 45 #[.slice A xs.length c, .slice A2 xs.length c2] w fun e w' => e = .returned (.bool true) ∧ Nx w w' := by
  go_enter Try.func45, Try.ntmps45
  go_wp2
  go_loopw [5] (fun i wr => ∃ k : Nat, k ≤ xs.length ∧ i = .int .i64 k ∧ Nx w wr) (fun i _ => xs.length - (intOf i).toNat)
  case atStart => exact ⟨0, Nat.zero_le _, rfl, Nx.refl _⟩
  case round =>
    obtain ⟨k, hk, rfl, hnx⟩ := hrel
    by_cases hlt : k < xs.length
    · obtain ⟨b, off, rfl, hb, hc⟩ := (h.below hnx hB).at_ hlt
      obtain ⟨b2, off2, rfl, hb2, hc2⟩ := (h2.below hnx hB).at_ hlt
      generalize xs.getD k 0 = s at hc hc2
      go_wp2
      go_quiet (fail)
      go_wp2
      go_roundw
      case rel => exact ⟨k + 1, by omega, by go_num, hnx.drewN _⟩
      case measure => simp [intOf]; omega
    · go_wp2
      go_ret
      exact ⟨rfl, hnx⟩
set_option maxHeartbeats 1000000 in
theorem contentDrawn_c (A : Option Addr) (n c : Nat) (ys : List Nat) (w : World) (h : U8s w w.heap.size A n ys) (hn : n ≤ 1048576) :
    Calls Try.prog 48 #[.slice A n c] w fun e w' => ∃ A' c' xs, e = .returned (.slice A' 8 c') ∧ xs.length = 8 ∧ Sm xs ∧ SlI w' w.heap.size A' xs ∧ Nx w w' := by
  go_enter Try.func48, Try.ntmps48
  go_wp2_with fail
  refine (l00Source_c A n c _ hn).mono ?_
  rintro e w1 ⟨rfl, s1, hnx1⟩
  have u1 := h.below hnx1 (Nat.le_refl _)
  go_wp2_with fail
  refine (content_c w.heap.size A n c w.heap.size 0 ys _ ⟨0, n % 1000, by omega, by omega, s1⟩ u1 (Nat.le_refl _) hn (by omega)).mono ?_
  rintro e w2 ⟨A', c', xs, rfl, hl, hsm, hS, _, hr⟩
  have HL := Lib.hid hl
  have HS := Lib.hid hS
  clear hl hS
  go_wp2
  go_ret
  exact ⟨A', c', xs, rfl, HL.out, hsm, HS.out.low hnx1.size, Rg.nx_of hnx1 hr (Nat.le_refl _)⟩
end Go.Proofs.Ytihpadelfpogmaa
