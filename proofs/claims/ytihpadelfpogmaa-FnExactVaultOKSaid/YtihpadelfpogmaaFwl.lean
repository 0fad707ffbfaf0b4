/-
  Contracts of the program's contentCode, turnCode, Forward and Backward.
  Conditions: the list and the segment can be read, and hold at most 1048576 elements each.
-/
import Derived.Test.YtihpadelfpogmaaVal
import Derived.Test.YtihpadelfpogmaaCnt
import Derived.Test.YtihpadelfpogmaaSgi
import Derived.Test.YtihpadelfpogmaaPln
namespace Go.Proofs.Ytihpadelfpogmaa
set_option linter.unusedVariables false
set_option maxRecDepth 100000
open Go.RowKit

/-- The code of a content and of what is asked beside it. -/
def askC (xs : List Int) (ok : Bool) : Int := if 4096 < xs.length then 2 else if contB xs && ok then 0 else 1
/-- A content that was turned, and its code. -/
def RetIC (w : World) (ys : List Int) (cd : Int) (e : Ending) (w' : World) : Prop := ∃ (A : Option Addr) (c : Nat), e = .returned (.tuple #[.slice A ys.length c, .int .i64 cd]) ∧ SlI w' w.heap.size A ys ∧ Nx w w'
def fwV (p : Chg → Int) (xs : List Int) (ok : Bool) (cs : List Chg) : List Int := if contB xs && ok then app p xs cs else []
theorem askC_long {xs : List Int} (h : 4096 < xs.length) (ok : Bool) : askC xs ok = 2 ∧ contB xs = false := ⟨by unfold askC; rw [if_pos h], contB_len (by omega)⟩
theorem askC_short {xs : List Int} (h : ¬ 4096 < xs.length) {a b : Bool} (ha : contB xs = a) (hb : b = b) : askC xs b = if a && b then 0 else 1 := by unfold askC; rw [if_neg h, ha]
theorem fwV_no {p : Chg → Int} {xs : List Int} {ok : Bool} {cs : List Chg} (h : (contB xs && ok) = false) : fwV p xs ok cs = [] := by unfold fwV; rw [h]; rfl
theorem fwV_yes {p : Chg → Int} {xs : List Int} {ok : Bool} {cs : List Chg} (h : (contB xs && ok) = true) : fwV p xs ok cs = app p xs cs := by unfold fwV; rw [h]; rfl

set_option maxHeartbeats 1000000 in
theorem contentCode_c (A : Option Addr) (c B : Nat) (xs : List Int) (w : World) (h : Ins w B A xs) (hB : B ≤ w.heap.size) (hn : xs.length ≤ 1048576) :
    Calls Try.prog 91 #[.slice A xs.length c] w fun e w' => e = .returned (.int .i64 (askC xs true)) ∧ Nx w w' := by
  by_cases hl : 4096 < xs.length
  · have hd : decide (4096 < (xs.length : Int)) = true := by simp; omega
    have HR := Lib.hid (askC_long hl true).1.symm
    go_enter Try.func91, Try.ntmps91
    go_wp2
    go_ret
    exact ⟨ret_int HR.out, Nx.refl _⟩
  have hd : decide (4096 < (xs.length : Int)) = false := by simp; omega
  cases hc : contB xs <;> (
    have HC := Lib.hid hc
    have HR := Lib.hid (askC_short hl hc (rfl : true = true)).symm
    clear hc
    go_enter Try.func91, Try.ntmps91
    go_wp2_with fail
    refine (implContentOK_c A c B xs _ h hB hn).mono ?_
    rintro e w1 ⟨rfl, hx1⟩
    rw [HC.out]
    go_wp2
    go_ret
    exact ⟨ret_int HR.out, hx1⟩)

set_option maxHeartbeats 1000000 in
theorem turnCode_c (A2 : Option Addr) (c2 B : Nat) (xs : List Int) (f t m : Int) (A : Option Addr) (c : Nat) (cs : List Chg) (w : World) (h : Ins w B A2 xs) (hg : Chs w B A cs) (hB : B ≤ w.heap.size) (hn : xs.length ≤ 1048576) (hn2 : cs.length ≤ 1048576) :
    Calls Try.prog 109 #[.slice A2 xs.length c2, .agg #[.int .i64 f, .int .i64 t, .int .i64 m, .slice A cs.length c]] w fun e w' => e = .returned (.int .i64 (askC xs (segB f t m cs))) ∧ Nx w w' := by
  have b0 := Box.new w 54 #[.int .i64 f, .int .i64 t, .int .i64 m, .slice A cs.length c]
  have hx0 := (Nx.refl w).alloc (.cells #[.int .i64 f, .int .i64 t, .int .i64 m, .slice A cs.length c] 54)
  obtain ⟨z, Hz⟩ : ∃ z, Hid (askC xs true = z) := ⟨_, rfl⟩
  by_cases hz : z = 0
  case neg =>
    have hd : (z != 0) = true := by simp [hz]
    have HR := Lib.hid (show askC xs (segB f t m cs) = z by
      have := Hz.out
      unfold askC at this ⊢
      by_cases hl : 4096 < xs.length
      · rw [if_pos hl] at this ⊢; exact this
      · rw [if_neg hl] at this ⊢
        cases hc : contB xs <;> rw [hc] at this <;> simp_all)
    go_enter Try.func109, Try.ntmps109
    go_wp2_with fail
    refine (contentCode_c A2 c2 B xs _ (h.below hx0 hB) (Nat.le_trans hB hx0.size) hn).mono ?_
    rintro e w1 ⟨rfl, hx1⟩
    rw [Hz.out]
    go_wp2
    go_ret
    exact ⟨ret_int HR.out.symm, hx0.trans hx1⟩
  subst hz
  have HC := Lib.hid (show ¬ 4096 < xs.length ∧ contB xs = true by
    have := Hz.out
    unfold askC at this
    by_cases hl : 4096 < xs.length
    · rw [if_pos hl] at this; omega
    · rw [if_neg hl] at this
      cases hc : contB xs
      · rw [hc] at this; simp at this
      · exact ⟨hl, rfl⟩)
  generalize w.alloc (.cells #[.int .i64 f, .int .i64 t, .int .i64 m, .slice A cs.length c] 54) = W at *
  cases hs : segB f t m cs <;> (
    have HS := Lib.hid hs
    have HR := Lib.hid (askC_short HC.out.1 HC.out.2 (rfl : segB f t m cs = segB f t m cs)).symm
    rw [hs] at HR
    clear hs
    go_enter Try.func109, Try.ntmps109
    go_wp2_with fail
    have b1 := Box.new w 54 #[.int .i64 f, .int .i64 t, .int .i64 m, .slice A cs.length c]
    have hx1 := (Nx.refl w).alloc (.cells #[.int .i64 f, .int .i64 t, .int .i64 m, .slice A cs.length c] 54)
    generalize w.alloc (.cells #[.int .i64 f, .int .i64 t, .int .i64 m, .slice A cs.length c] 54) = W1 at *
    refine (contentCode_c A2 c2 B xs _ (h.below hx1 hB) (Nat.le_trans hB hx1.size) hn).mono ?_
    rintro e w1 ⟨rfl, hx2⟩
    rw [Hz.out]
    obtain ⟨k0, k1, k2, k3⟩ := (b1.nx hx2).d4
    have hx3 := hx1.trans hx2
    go_wp2_with fail
    refine (segRight_c f t m A c B cs _ (hg.below hx3 hB) (Nat.le_trans hB hx3.size) hn2).mono ?_
    rintro e w2 ⟨rfl, hx4⟩
    rw [HS.out]
    go_wp2
    go_ret
    exact ⟨ret_int HR.out, hx3.trans hx4⟩)

set_option maxRecDepth 100000 in
set_option maxHeartbeats 4000000 in
theorem implForward_c (A2 : Option Addr) (c2 B : Nat) (xs : List Int) (f t m : Int) (A : Option Addr) (c : Nat) (cs : List Chg) (w : World) (h : Ins w B A2 xs) (hg : Chs w B A cs) (hB : B ≤ w.heap.size) (hn : xs.length ≤ 1048576) (hn2 : cs.length ≤ 1048576) :
    Calls Try.prog 50 #[.slice A2 xs.length c2, .agg #[.int .i64 f, .int .i64 t, .int .i64 m, .slice A cs.length c]] w (RetIC w (fwV pN xs (segB f t m cs) cs) (askC xs (segB f t m cs))) := by
  obtain ⟨z, Hz⟩ : ∃ z, Hid (askC xs (segB f t m cs) = z) := ⟨_, rfl⟩
  by_cases hz : z = 0
  case neg =>
    have hd : (z != 0) = true := by simp [hz]
    have HF := Lib.hid (show fwV pN xs (segB f t m cs) cs = [] from fwV_no (by
      have := Hz.out
      unfold askC at this
      by_cases hl : 4096 < xs.length
      · rw [(askC_long hl true).2]; rfl
      · rw [if_neg hl] at this
        cases hc : (contB xs && segB f t m cs)
        · rfl
        · rw [hc] at this; exact absurd this.symm hz))
    go_enter Try.func50, Try.ntmps50
    go_wp2_with fail
    have hx1 := (Nx.refl w).alloc (.cells #[.int .i64 f, .int .i64 t, .int .i64 m, .slice A cs.length c] 54)
    generalize w.alloc (.cells #[.int .i64 f, .int .i64 t, .int .i64 m, .slice A cs.length c] 54) = W1 at *
    refine (turnCode_c A2 c2 B xs f t m A c cs _ (h.below hx1 hB) (hg.below hx1 hB) (Nat.le_trans hB hx1.size) hn hn2).mono ?_
    rintro e w1 ⟨rfl, hx2⟩
    rw [Hz.out]
    go_wp2
    exact bodyPost_ret (v := .tuple #[.slice none 0 0, .int .i64 z]) (by simp [results, Try.results50, go_sem]) rfl ⟨none, 0, by rw [HF.out, Hz.out]; rfl, by rw [HF.out]; exact Sl.none_ _ _ _ _ _, hx1.trans hx2⟩
  subst hz
  have HC := Lib.hid (show contB xs = true ∧ segB f t m cs = true by
    have := Hz.out
    unfold askC at this
    by_cases hl : 4096 < xs.length
    · rw [if_pos hl] at this; omega
    · rw [if_neg hl] at this
      cases hc : contB xs <;> cases hs : segB f t m cs <;> rw [hc, hs] at this <;> simp at this ⊢)
  have HF := Lib.hid (show fwV pN xs (segB f t m cs) cs = app pN xs cs from fwV_yes (by rw [HC.out.1, HC.out.2]; rfl))
  have H8 := Lib.hid (contB_yes HC.out.1).1
  have HK := Lib.hid (show chsB cs = true by
    have := HC.out.2
    unfold segB at this
    simp only [Bool.and_eq_true] at this
    exact this.2)
  go_enter Try.func50, Try.ntmps50
  go_wp2_with fail
  have b1 := Box.new w 54 #[.int .i64 f, .int .i64 t, .int .i64 m, .slice A cs.length c]
  have hx1 := (Nx.refl w).alloc (.cells #[.int .i64 f, .int .i64 t, .int .i64 m, .slice A cs.length c] 54)
  generalize w.alloc (.cells #[.int .i64 f, .int .i64 t, .int .i64 m, .slice A cs.length c] 54) = W1 at *
  refine (turnCode_c A2 c2 B xs f t m A c cs _ (h.below hx1 hB) (hg.below hx1 hB) (Nat.le_trans hB hx1.size) hn hn2).mono ?_
  rintro e w1 ⟨rfl, hx2⟩
  rw [Hz.out]
  have b2 := b1.nx hx2
  have hX2 := hx1.trans hx2
  clear b1 hx1 hx2
  go_wp2_with fail
  refine wp_region_plan (.t 0 (.t 2 (.c 1 (.c 3 (.c 4 (.t 5 (.t 6 .e))))))) (fun w' => w'.cell? ⟨w.heap.size, 0, none⟩ = some (.int .i64 f) ∧ w'.cell? ⟨w.heap.size, 1, none⟩ = some (.int .i64 t) ∧ w'.cell? ⟨w.heap.size, 2, none⟩ = some (.int .i64 m) ∧ w'.cell? ⟨w.heap.size, 3, none⟩ = some (.slice A cs.length c)) (by kernel_rfl) (by kernel_rfl) rfl (by kernel_rfl) (fun _ _ d _ _ h => by cases d <;> exact h) (by exact (b2.d4)) ?_
  simp only [psOf, List.getD_cons_zero, List.getD_cons_succ]
  repeat (first | (refine HP.take (v := ?_) (by rfl) ?_ ?_; rotate_left; (· (intro w hSw; (try dsimp only at hSw); go_simp; try with_reducible rfl)); (try simp only [Act.put, List.setIfInBounds_toArray, List.set_cons_zero, List.set_cons_succ])) | (refine HP.skip (by rfl) ?_; (try simp only [Act.put, List.setIfInBounds_toArray, List.set_cons_zero, List.set_cons_succ])))
  refine HP.call ?_
  refine CallStep.mk (by rfl) (fun K hK => ?_)
  go_simp
  refine (valuesOf_c A2 c2 B xs _ (h.below hX2.drew hB) (Nat.le_trans hB hX2.drew.size) H8.out).mono ?_; rintro e v1 ⟨rfl, hv1⟩; have bv1 := b2.nx (Nx.drew_r hv1); have hXv1 := hX2.drew.trans hv1
  go_wp2_with fail
  refine hK.out _ _ (by exact bv1.d4) ?_
  clear hK K
  try simp only [Act.put, List.setIfInBounds_toArray, List.set_cons_zero, List.set_cons_succ]
  refine HP.call ?_
  refine CallStep.mk (by rfl) (fun K hK => ?_)
  go_simp
  refine (valuesForward_c f t m A c B cs xs _ (hg.below hXv1 hB) (Nat.le_trans hB hXv1.size) HK.out H8.out).mono ?_; rintro e v2 ⟨rfl, hv2⟩; have bv2 := bv1.nx hv2; have hXv2 := hXv1.trans hv2
  go_wp2_with fail
  refine hK.out _ _ (by exact bv2.d4) ?_
  clear hK K
  try simp only [Act.put, List.setIfInBounds_toArray, List.set_cons_zero, List.set_cons_succ]
  refine HP.call ?_
  refine CallStep.mk (by rfl) (fun K hK => ?_)
  go_simp
  refine (valuesList_c (app pN xs cs) _ (by rw [app_len]; exact H8.out)).mono ?_; rintro e v3 ⟨A9, c9, rfl, hS9, hv3⟩; have bv3 := bv2.nx hv3
  go_wp2_with fail
  refine hK.out _ _ (by exact bv3.d4) ?_
  clear hK K
  try simp only [Act.put, List.setIfInBounds_toArray, List.set_cons_zero, List.set_cons_succ]
  repeat (first | (refine HP.take (v := ?_) (by rfl) ?_ ?_; rotate_left; (· (intro w hSw; (try dsimp only at hSw); go_simp; try with_reducible rfl)); (try simp only [Act.put, List.setIfInBounds_toArray, List.set_cons_zero, List.set_cons_succ])) | (refine HP.skip (by rfl) ?_; (try simp only [Act.put, List.setIfInBounds_toArray, List.set_cons_zero, List.set_cons_succ])))
  refine HP.done ?_
  go_wp2
  exact bodyPost_ret (v := .tuple #[.slice A9 (app pN xs cs).length c9, .int .i64 0]) (by simp [results, Try.results50, go_sem]) rfl ⟨A9, c9, by rw [HF.out, Hz.out], by rw [HF.out]; exact hS9.low hXv2.size, hXv2.trans hv3⟩

set_option maxRecDepth 100000 in
set_option maxHeartbeats 4000000 in
theorem implBackward_c (A2 : Option Addr) (c2 B : Nat) (xs : List Int) (f t m : Int) (A : Option Addr) (c : Nat) (cs : List Chg) (w : World) (h : Ins w B A2 xs) (hg : Chs w B A cs) (hB : B ≤ w.heap.size) (hn : xs.length ≤ 1048576) (hn2 : cs.length ≤ 1048576) :
    Calls Try.prog 52 #[.slice A2 xs.length c2, .agg #[.int .i64 f, .int .i64 t, .int .i64 m, .slice A cs.length c]] w (RetIC w (fwV pO xs (segB f t m cs) cs) (askC xs (segB f t m cs))) := by
  obtain ⟨z, Hz⟩ : ∃ z, Hid (askC xs (segB f t m cs) = z) := ⟨_, rfl⟩
  by_cases hz : z = 0
  case neg =>
    have hd : (z != 0) = true := by simp [hz]
    have HF := Lib.hid (show fwV pO xs (segB f t m cs) cs = [] from fwV_no (by
      have := Hz.out
      unfold askC at this
      by_cases hl : 4096 < xs.length
      · rw [(askC_long hl true).2]; rfl
      · rw [if_neg hl] at this
        cases hc : (contB xs && segB f t m cs)
        · rfl
        · rw [hc] at this; exact absurd this.symm hz))
    go_enter Try.func52, Try.ntmps52
    go_wp2_with fail
    have hx1 := (Nx.refl w).alloc (.cells #[.int .i64 f, .int .i64 t, .int .i64 m, .slice A cs.length c] 54)
    generalize w.alloc (.cells #[.int .i64 f, .int .i64 t, .int .i64 m, .slice A cs.length c] 54) = W1 at *
    refine (turnCode_c A2 c2 B xs f t m A c cs _ (h.below hx1 hB) (hg.below hx1 hB) (Nat.le_trans hB hx1.size) hn hn2).mono ?_
    rintro e w1 ⟨rfl, hx2⟩
    rw [Hz.out]
    go_wp2
    exact bodyPost_ret (v := .tuple #[.slice none 0 0, .int .i64 z]) (by simp [results, Try.results52, go_sem]) rfl ⟨none, 0, by rw [HF.out, Hz.out]; rfl, by rw [HF.out]; exact Sl.none_ _ _ _ _ _, hx1.trans hx2⟩
  subst hz
  have HC := Lib.hid (show contB xs = true ∧ segB f t m cs = true by
    have := Hz.out
    unfold askC at this
    by_cases hl : 4096 < xs.length
    · rw [if_pos hl] at this; omega
    · rw [if_neg hl] at this
      cases hc : contB xs <;> cases hs : segB f t m cs <;> rw [hc, hs] at this <;> simp at this ⊢)
  have HF := Lib.hid (show fwV pO xs (segB f t m cs) cs = app pO xs cs from fwV_yes (by rw [HC.out.1, HC.out.2]; rfl))
  have H8 := Lib.hid (contB_yes HC.out.1).1
  have HK := Lib.hid (show chsB cs = true by
    have := HC.out.2
    unfold segB at this
    simp only [Bool.and_eq_true] at this
    exact this.2)
  go_enter Try.func52, Try.ntmps52
  go_wp2_with fail
  have b1 := Box.new w 54 #[.int .i64 f, .int .i64 t, .int .i64 m, .slice A cs.length c]
  have hx1 := (Nx.refl w).alloc (.cells #[.int .i64 f, .int .i64 t, .int .i64 m, .slice A cs.length c] 54)
  generalize w.alloc (.cells #[.int .i64 f, .int .i64 t, .int .i64 m, .slice A cs.length c] 54) = W1 at *
  refine (turnCode_c A2 c2 B xs f t m A c cs _ (h.below hx1 hB) (hg.below hx1 hB) (Nat.le_trans hB hx1.size) hn hn2).mono ?_
  rintro e w1 ⟨rfl, hx2⟩
  rw [Hz.out]
  have b2 := b1.nx hx2
  have hX2 := hx1.trans hx2
  clear b1 hx1 hx2
  go_wp2_with fail
  refine wp_region_plan (.t 0 (.t 2 (.c 1 (.c 3 (.c 4 (.t 5 (.t 6 .e))))))) (fun w' => w'.cell? ⟨w.heap.size, 0, none⟩ = some (.int .i64 f) ∧ w'.cell? ⟨w.heap.size, 1, none⟩ = some (.int .i64 t) ∧ w'.cell? ⟨w.heap.size, 2, none⟩ = some (.int .i64 m) ∧ w'.cell? ⟨w.heap.size, 3, none⟩ = some (.slice A cs.length c)) (by kernel_rfl) (by kernel_rfl) rfl (by kernel_rfl) (fun _ _ d _ _ h => by cases d <;> exact h) (by exact (b2.d4)) ?_
  simp only [psOf, List.getD_cons_zero, List.getD_cons_succ]
  repeat (first | (refine HP.take (v := ?_) (by rfl) ?_ ?_; rotate_left; (· (intro w hSw; (try dsimp only at hSw); go_simp; try with_reducible rfl)); (try simp only [Act.put, List.setIfInBounds_toArray, List.set_cons_zero, List.set_cons_succ])) | (refine HP.skip (by rfl) ?_; (try simp only [Act.put, List.setIfInBounds_toArray, List.set_cons_zero, List.set_cons_succ])))
  refine HP.call ?_
  refine CallStep.mk (by rfl) (fun K hK => ?_)
  go_simp
  refine (valuesOf_c A2 c2 B xs _ (h.below hX2.drew hB) (Nat.le_trans hB hX2.drew.size) H8.out).mono ?_; rintro e v1 ⟨rfl, hv1⟩; have bv1 := b2.nx (Nx.drew_r hv1); have hXv1 := hX2.drew.trans hv1
  go_wp2_with fail
  refine hK.out _ _ (by exact bv1.d4) ?_
  clear hK K
  try simp only [Act.put, List.setIfInBounds_toArray, List.set_cons_zero, List.set_cons_succ]
  refine HP.call ?_
  refine CallStep.mk (by rfl) (fun K hK => ?_)
  go_simp
  refine (valuesBackward_c f t m A c B cs xs _ (hg.below hXv1 hB) (Nat.le_trans hB hXv1.size) HK.out H8.out).mono ?_; rintro e v2 ⟨rfl, hv2⟩; have bv2 := bv1.nx hv2; have hXv2 := hXv1.trans hv2
  go_wp2_with fail
  refine hK.out _ _ (by exact bv2.d4) ?_
  clear hK K
  try simp only [Act.put, List.setIfInBounds_toArray, List.set_cons_zero, List.set_cons_succ]
  refine HP.call ?_
  refine CallStep.mk (by rfl) (fun K hK => ?_)
  go_simp
  refine (valuesList_c (app pO xs cs) _ (by rw [app_len]; exact H8.out)).mono ?_; rintro e v3 ⟨A9, c9, rfl, hS9, hv3⟩; have bv3 := bv2.nx hv3
  go_wp2_with fail
  refine hK.out _ _ (by exact bv3.d4) ?_
  clear hK K
  try simp only [Act.put, List.setIfInBounds_toArray, List.set_cons_zero, List.set_cons_succ]
  repeat (first | (refine HP.take (v := ?_) (by rfl) ?_ ?_; rotate_left; (· (intro w hSw; (try dsimp only at hSw); go_simp; try with_reducible rfl)); (try simp only [Act.put, List.setIfInBounds_toArray, List.set_cons_zero, List.set_cons_succ])) | (refine HP.skip (by rfl) ?_; (try simp only [Act.put, List.setIfInBounds_toArray, List.set_cons_zero, List.set_cons_succ])))
  refine HP.done ?_
  go_wp2
  exact bodyPost_ret (v := .tuple #[.slice A9 (app pO xs cs).length c9, .int .i64 0]) (by simp [results, Try.results52, go_sem]) rfl ⟨A9, c9, by rw [HF.out, Hz.out], by rw [HF.out]; exact hS9.low hXv2.size, hXv2.trans hv3⟩
end Go.Proofs.Ytihpadelfpogmaa
