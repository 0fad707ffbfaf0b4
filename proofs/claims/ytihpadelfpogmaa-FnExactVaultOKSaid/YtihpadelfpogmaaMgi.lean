/-
  Contract of MergeSegs, as the program has it.
  Conditions: the segments can be read, and have at most 1048576 changes.
-/
import Derived.Test.YtihpadelfpogmaaMrg
import Derived.Test.YtihpadelfpogmaaSof
import Derived.Test.YtihpadelfpogmaaSgi
namespace Go.Proofs.Ytihpadelfpogmaa
set_option linter.unusedVariables false
set_option maxRecDepth 100000
open Go.RowKit

def mgB (f t m : Int) (l1 : List Chg) (f2 t2 m2 : Int) (l2 : List Chg) : Bool := segB f t m l1 && segB f2 t2 m2 l2
def mgCd (f t m : Int) (l1 : List Chg) (f2 t2 m2 : Int) (l2 : List Chg) : Int := if mgB f t m l1 f2 t2 m2 l2 then (if t = f2 then 0 else 17) else 1
def mgSg (f t m : Int) (l1 : List Chg) (f2 t2 m2 : Int) (l2 : List Chg) : Sg4 := if mgB f t m l1 f2 t2 m2 l2 && decide (t = f2) then (f, t2, m2, mrgC l1 l2) else zSg
theorem mg_bad {f t m : Int} {l1 : List Chg} {f2 t2 m2 : Int} {l2 : List Chg} (h : mgB f t m l1 f2 t2 m2 l2 = false) : mgCd f t m l1 f2 t2 m2 l2 = 1 ∧ mgSg f t m l1 f2 t2 m2 l2 = zSg := by
  unfold mgCd mgSg; rw [h]; exact ⟨rfl, rfl⟩
theorem mg_gap {f t m : Int} {l1 : List Chg} {f2 t2 m2 : Int} {l2 : List Chg} (h : mgB f t m l1 f2 t2 m2 l2 = true) (hg : ¬ t = f2) : mgCd f t m l1 f2 t2 m2 l2 = 17 ∧ mgSg f t m l1 f2 t2 m2 l2 = zSg := by
  unfold mgCd mgSg; rw [h]; simp [hg]
theorem mg_yes {f t m : Int} {l1 : List Chg} {f2 t2 m2 : Int} {l2 : List Chg} (h : mgB f t m l1 f2 t2 m2 l2 = true) (hg : t = f2) : mgCd f t m l1 f2 t2 m2 l2 = 0 ∧ mgSg f t m l1 f2 t2 m2 l2 = (f, t2, m2, mrgC l1 l2) := by
  unfold mgCd mgSg; rw [h]; simp [hg]
theorem segB_chs {f t m : Int} {cs : List Chg} (h : segB f t m cs = true) : chsB cs = true := by
  unfold segB at h
  simp only [Bool.and_eq_true] at h
  exact h.2

set_option maxRecDepth 100000 in
set_option maxHeartbeats 8000000 in
theorem implMergeSegs_c (f t m : Int) (A : Option Addr) (c : Nat) (l1 : List Chg) (f2 t2 m2 : Int) (A2 : Option Addr) (c2 : Nat) (l2 : List Chg) (B : Nat) (w : World) (h1 : Chs w B A l1) (h2 : Chs w B A2 l2) (hB : B ≤ w.heap.size) (hn1 : l1.length ≤ 1048576) (hn2 : l2.length ≤ 1048576) :
    Calls Try.prog 56 #[.agg #[.int .i64 f, .int .i64 t, .int .i64 m, .slice A l1.length c], .agg #[.int .i64 f2, .int .i64 t2, .int .i64 m2, .slice A2 l2.length c2]] w (RetSC w (mgSg f t m l1 f2 t2 m2 l2) (mgCd f t m l1 f2 t2 m2 l2)) := by
  have bA0 := ((Box.new w 54 #[.int .i64 f, .int .i64 t, .int .i64 m, .slice A l1.length c]).alloc (.cells #[.int .i64 f2, .int .i64 t2, .int .i64 m2, .slice A2 l2.length c2] 54)).alloc (.cells #[.int .i64 0, .int .i64 0, .int .i64 0, .slice none 0 0] 54)
  have bB0 := (Box.new (w.alloc (.cells #[.int .i64 f, .int .i64 t, .int .i64 m, .slice A l1.length c] 54)) 54 #[.int .i64 f2, .int .i64 t2, .int .i64 m2, .slice A2 l2.length c2]).alloc (.cells #[.int .i64 0, .int .i64 0, .int .i64 0, .slice none 0 0] 54)
  have bR0 := Box.new ((w.alloc (.cells #[.int .i64 f, .int .i64 t, .int .i64 m, .slice A l1.length c] 54)).alloc (.cells #[.int .i64 f2, .int .i64 t2, .int .i64 m2, .slice A2 l2.length c2] 54)) 54 #[.int .i64 0, .int .i64 0, .int .i64 0, .slice none 0 0]
  have hx0 := (((Nx.refl w).alloc (.cells #[.int .i64 f, .int .i64 t, .int .i64 m, .slice A l1.length c] 54)).alloc (.cells #[.int .i64 f2, .int .i64 t2, .int .i64 m2, .slice A2 l2.length c2] 54)).alloc (.cells #[.int .i64 0, .int .i64 0, .int .i64 0, .slice none 0 0] 54)
  simp only [World.size_alloc] at bB0 bR0
  cases hs1 : segB f t m l1
  · have HS1 := Lib.hid hs1
    have HR := Lib.hid (mg_bad (f := f) (t := t) (m := m) (l1 := l1) (f2 := f2) (t2 := t2) (m2 := m2) (l2 := l2) (by unfold mgB; rw [hs1]; rfl))
    clear hs1
    go_enter Try.func56, Try.ntmps56
    go_wp2_with fail
    generalize ((w.alloc (.cells #[.int .i64 f, .int .i64 t, .int .i64 m, .slice A l1.length c] 54)).alloc (.cells #[.int .i64 f2, .int .i64 t2, .int .i64 m2, .slice A2 l2.length c2] 54)).alloc (.cells #[.int .i64 0, .int .i64 0, .int .i64 0, .slice none 0 0] 54) = W at *
    refine (segRight_c f t m A c B l1 _ (h1.below hx0 hB) (Nat.le_trans hB hx0.size) hn1).mono ?_
    rintro e w1 ⟨rfl, hx1⟩
    rw [HS1.out]
    have bR := bR0.nx hx1
    have hX := hx0.trans hx1
    obtain ⟨rc0, rc1, rc2, rc3⟩ := bR.d4
    have rf0 := bR.frozen 0
    have rf1 := bR.frozen 1
    have rf2 := bR.frozen 2
    have rf3 := bR.frozen 3
    have rlt := bR.lt
    go_wp2
    have rq := (put4_box bR (.int .i64 0) (.int .i64 0) (.int .i64 0) (.slice none 0 0))
    have hnf := (put4_nx (g := (w.heap.size + 1 + 1)) hX (by omega) (.int .i64 0) (.int .i64 0) (.int .i64 0) (.slice none 0 0))
    unfold put4 at rq hnf
    generalize ((((w1.setCell ⟨(w.heap.size + 1 + 1), 0, none⟩ (.int .i64 0)).setCell ⟨(w.heap.size + 1 + 1), 1, none⟩ (.int .i64 0)).setCell ⟨(w.heap.size + 1 + 1), 2, none⟩ (.int .i64 0)).setCell ⟨(w.heap.size + 1 + 1), 3, none⟩ (.slice none 0 0)) = Wf at *
    obtain ⟨rg0, rg1, rg2, rg3⟩ := rq.d4
    exact bodyPost_ret (v := .tuple #[.agg #[.int .i64 0, .int .i64 0, .int .i64 0, .slice none 0 0], .int .i64 1]) (by simp [results, Try.results56, go_sem, rg0, rg1, rg2, rg3]) rfl ⟨none, 0, by rw [HR.out.1, HR.out.2]; rfl, by rw [HR.out.2]; exact Sl.none_ _ _ _ _ _, hnf⟩
  have HS1 := Lib.hid hs1
  cases hs2 : segB f2 t2 m2 l2
  · have HS2 := Lib.hid hs2
    have HR := Lib.hid (mg_bad (f := f) (t := t) (m := m) (l1 := l1) (f2 := f2) (t2 := t2) (m2 := m2) (l2 := l2) (by unfold mgB; rw [hs1, hs2]; rfl))
    clear hs1 hs2
    go_enter Try.func56, Try.ntmps56
    go_wp2_with fail
    generalize ((w.alloc (.cells #[.int .i64 f, .int .i64 t, .int .i64 m, .slice A l1.length c] 54)).alloc (.cells #[.int .i64 f2, .int .i64 t2, .int .i64 m2, .slice A2 l2.length c2] 54)).alloc (.cells #[.int .i64 0, .int .i64 0, .int .i64 0, .slice none 0 0] 54) = W at *
    refine (segRight_c f t m A c B l1 _ (h1.below hx0 hB) (Nat.le_trans hB hx0.size) hn1).mono ?_
    rintro e w0 ⟨rfl, hx1⟩
    rw [HS1.out]
    have hX0 := hx0.trans hx1
    obtain ⟨k0, k1, k2, k3⟩ := (bB0.nx hx1).d4
    go_wp2_with fail
    refine (segRight_c f2 t2 m2 A2 c2 B l2 _ (h2.below hX0 hB) (Nat.le_trans hB hX0.size) hn2).mono ?_
    rintro e w1 ⟨rfl, hx2⟩
    rw [HS2.out]
    have bR := (bR0.nx hx1).nx hx2
    have hX := hX0.trans hx2
    clear k0 k1 k2 k3
    obtain ⟨rc0, rc1, rc2, rc3⟩ := bR.d4
    have rf0 := bR.frozen 0
    have rf1 := bR.frozen 1
    have rf2 := bR.frozen 2
    have rf3 := bR.frozen 3
    have rlt := bR.lt
    go_wp2
    have rq := (put4_box bR (.int .i64 0) (.int .i64 0) (.int .i64 0) (.slice none 0 0))
    have hnf := (put4_nx (g := (w.heap.size + 1 + 1)) hX (by omega) (.int .i64 0) (.int .i64 0) (.int .i64 0) (.slice none 0 0))
    unfold put4 at rq hnf
    generalize ((((w1.setCell ⟨(w.heap.size + 1 + 1), 0, none⟩ (.int .i64 0)).setCell ⟨(w.heap.size + 1 + 1), 1, none⟩ (.int .i64 0)).setCell ⟨(w.heap.size + 1 + 1), 2, none⟩ (.int .i64 0)).setCell ⟨(w.heap.size + 1 + 1), 3, none⟩ (.slice none 0 0)) = Wf at *
    obtain ⟨rg0, rg1, rg2, rg3⟩ := rq.d4
    exact bodyPost_ret (v := .tuple #[.agg #[.int .i64 0, .int .i64 0, .int .i64 0, .slice none 0 0], .int .i64 1]) (by simp [results, Try.results56, go_sem, rg0, rg1, rg2, rg3]) rfl ⟨none, 0, by rw [HR.out.1, HR.out.2]; rfl, by rw [HR.out.2]; exact Sl.none_ _ _ _ _ _, hnf⟩
  have HS2 := Lib.hid hs2
  have hmg : mgB f t m l1 f2 t2 m2 l2 = true := by unfold mgB; rw [hs1, hs2]; rfl
  clear hs1 hs2
  go_enter Try.func56, Try.ntmps56
  go_wp2_with fail
  generalize ((w.alloc (.cells #[.int .i64 f, .int .i64 t, .int .i64 m, .slice A l1.length c] 54)).alloc (.cells #[.int .i64 f2, .int .i64 t2, .int .i64 m2, .slice A2 l2.length c2] 54)).alloc (.cells #[.int .i64 0, .int .i64 0, .int .i64 0, .slice none 0 0] 54) = W at *
  refine (segRight_c f t m A c B l1 _ (h1.below hx0 hB) (Nat.le_trans hB hx0.size) hn1).mono ?_
  rintro e w0 ⟨rfl, hx1⟩
  rw [HS1.out]
  have hX0 := hx0.trans hx1
  obtain ⟨k0, k1, k2, k3⟩ := (bB0.nx hx1).d4
  go_wp2_with fail
  refine (segRight_c f2 t2 m2 A2 c2 B l2 _ (h2.below hX0 hB) (Nat.le_trans hB hX0.size) hn2).mono ?_
  rintro e w1 ⟨rfl, hx2⟩
  rw [HS2.out]
  have bA := (bA0.nx hx1).nx hx2
  have bB := (bB0.nx hx1).nx hx2
  have bR := (bR0.nx hx1).nx hx2
  have hX := hX0.trans hx2
  clear k0 k1 k2 k3 bA0 bB0 bR0 hx0 hx1 hx2 hX0
  obtain ⟨k0, k1, k2, k3⟩ := bA.d4
  obtain ⟨m0, m1, m2', m3⟩ := bB.d4
  by_cases hg : t = f2
  case neg =>
    have HR := Lib.hid (mg_gap hmg hg)
    have hd : (t != f2) = true := by simp [hg]
    clear hmg
    obtain ⟨rc0, rc1, rc2, rc3⟩ := bR.d4
    have rf0 := bR.frozen 0
    have rf1 := bR.frozen 1
    have rf2 := bR.frozen 2
    have rf3 := bR.frozen 3
    have rlt := bR.lt
    go_wp2
    have rq := (put4_box bR (.int .i64 0) (.int .i64 0) (.int .i64 0) (.slice none 0 0))
    have hnf := (put4_nx (g := (w.heap.size + 1 + 1)) hX (by omega) (.int .i64 0) (.int .i64 0) (.int .i64 0) (.slice none 0 0))
    unfold put4 at rq hnf
    generalize ((((w1.setCell ⟨(w.heap.size + 1 + 1), 0, none⟩ (.int .i64 0)).setCell ⟨(w.heap.size + 1 + 1), 1, none⟩ (.int .i64 0)).setCell ⟨(w.heap.size + 1 + 1), 2, none⟩ (.int .i64 0)).setCell ⟨(w.heap.size + 1 + 1), 3, none⟩ (.slice none 0 0)) = Wf at *
    obtain ⟨rg0, rg1, rg2, rg3⟩ := rq.d4
    exact bodyPost_ret (v := .tuple #[.agg #[.int .i64 0, .int .i64 0, .int .i64 0, .slice none 0 0], .int .i64 17]) (by simp [results, Try.results56, go_sem, rg0, rg1, rg2, rg3]) rfl ⟨none, 0, by rw [HR.out.1, HR.out.2]; rfl, by rw [HR.out.2]; exact Sl.none_ _ _ _ _ _, hnf⟩
  have HR := Lib.hid (mg_yes hmg hg)
  have hd : (t != f2) = false := by simp [hg]
  obtain ⟨r, Hr⟩ : ∃ r, Hid (mrgC l1 l2 = r) := ⟨_, rfl⟩
  rw [Hr.out] at HR
  have HG := Lib.hid hg
  clear hmg hg
  have bAd : Box w1.drew w.heap.size 54 #[.int .i64 f, .int .i64 t, .int .i64 m, .slice A l1.length c] := bA
  have bBd : Box w1.drew (w.heap.size + 1) 54 #[.int .i64 f2, .int .i64 t2, .int .i64 m2, .slice A2 l2.length c2] := bB
  have bRd : Box w1.drew (w.heap.size + 1 + 1) 54 #[.int .i64 0, .int .i64 0, .int .i64 0, .slice none 0 0] := bR
  go_wp2_with fail
  refine wp_region_lex [false, false, false, false, false, false, false, false, true, false, true, false] (fun w' => (w'.cell? ⟨w.heap.size, 0, none⟩ = some (.int .i64 f) ∧ w'.cell? ⟨w.heap.size, 1, none⟩ = some (.int .i64 t) ∧ w'.cell? ⟨w.heap.size, 2, none⟩ = some (.int .i64 m) ∧ w'.cell? ⟨w.heap.size, 3, none⟩ = some (.slice A l1.length c)) ∧ (w'.cell? ⟨(w.heap.size + 1), 0, none⟩ = some (.int .i64 f2) ∧ w'.cell? ⟨(w.heap.size + 1), 1, none⟩ = some (.int .i64 t2) ∧ w'.cell? ⟨(w.heap.size + 1), 2, none⟩ = some (.int .i64 m2) ∧ w'.cell? ⟨(w.heap.size + 1), 3, none⟩ = some (.slice A2 l2.length c2))) (by kernel_rfl) (by kernel_rfl) rfl (by kernel_rfl) (fun _ _ d _ _ h => by cases d <;> exact h) (by exact ⟨bAd.d4, bBd.d4⟩) ?_
  repeat (first | (refine HL.take (v := ?_) (by rfl) ?_ ?_; rotate_left; (· (intro w hSw; (try dsimp only at hSw); go_simp; try with_reducible rfl)); (try simp only [Act.put, List.setIfInBounds_toArray, List.set_cons_zero, List.set_cons_succ])) | (refine HL.skip (by rfl) ?_; (try simp only [Act.put, List.setIfInBounds_toArray, List.set_cons_zero, List.set_cons_succ])))
  refine HL.call (by rfl) (fun K hK => ?_)
  go_simp
  refine (mergedChanges_c f t m A c l1 f2 t2 m2 A2 c2 l2 B _ (h1.below hX.drew hB) (h2.below hX.drew hB) (Nat.le_trans hB hX.drew.size) (segB_chs HS1.out) (segB_chs HS2.out)).mono ?_; intro e w3 hR9; unfold RetCg at hR9; rw [Hr.out] at hR9; obtain ⟨A9, c9, rfl, hS9, hx9⟩ := hR9; have bA9 := bAd.nx hx9; have bB9 := bBd.nx hx9; have bR9 := bRd.nx hx9; have hX9 := hX.drew.trans hx9; have zl : w.heap.size + 1 + 1 < w1.drew.heap.size := bRd.lt
  go_wp2_with fail
  refine hK.out _ _ (by exact ⟨bA9.d4, bB9.d4⟩) ?_
  clear hK K
  try simp only [Act.put, List.setIfInBounds_toArray, List.set_cons_zero, List.set_cons_succ]
  repeat (first | (refine HL.take (v := ?_) (by rfl) ?_ ?_; rotate_left; (· (intro w hSw; (try dsimp only at hSw); go_simp; try with_reducible rfl)); (try simp only [Act.put, List.setIfInBounds_toArray, List.set_cons_zero, List.set_cons_succ])) | (refine HL.skip (by rfl) ?_; (try simp only [Act.put, List.setIfInBounds_toArray, List.set_cons_zero, List.set_cons_succ])))
  obtain ⟨rc0, rc1, rc2, rc3⟩ := bR9.d4
  have rf0 := bR9.frozen 0
  have rf1 := bR9.frozen 1
  have rf2 := bR9.frozen 2
  have rf3 := bR9.frozen 3
  have rlt := bR9.lt
  refine HL.call (by rfl) (fun K hK => ?_)
  go_simp
  refine hK.out _ _ (by exact ⟨((((bA9.far (p := ⟨(w.heap.size + 1 + 1), 0, none⟩) (by simp <;> omega) (.int .i64 f)).far (p := ⟨(w.heap.size + 1 + 1), 1, none⟩) (by simp <;> omega) (.int .i64 t2)).far (p := ⟨(w.heap.size + 1 + 1), 2, none⟩) (by simp <;> omega) (.int .i64 m2)).far (p := ⟨(w.heap.size + 1 + 1), 3, none⟩) (by simp <;> omega) (.slice A9 r.length c9)).d4, ((((bB9.far (p := ⟨(w.heap.size + 1 + 1), 0, none⟩) (by simp <;> omega) (.int .i64 f)).far (p := ⟨(w.heap.size + 1 + 1), 1, none⟩) (by simp <;> omega) (.int .i64 t2)).far (p := ⟨(w.heap.size + 1 + 1), 2, none⟩) (by simp <;> omega) (.int .i64 m2)).far (p := ⟨(w.heap.size + 1 + 1), 3, none⟩) (by simp <;> omega) (.slice A9 r.length c9)).d4⟩) ?_
  clear hK K
  try simp only [Act.put, List.setIfInBounds_toArray, List.set_cons_zero, List.set_cons_succ]
  repeat (first | (refine HL.take (v := ?_) (by rfl) ?_ ?_; rotate_left; (· (intro w hSw; (try dsimp only at hSw); go_simp; try with_reducible rfl)); (try simp only [Act.put, List.setIfInBounds_toArray, List.set_cons_zero, List.set_cons_succ])) | (refine HL.skip (by rfl) ?_; (try simp only [Act.put, List.setIfInBounds_toArray, List.set_cons_zero, List.set_cons_succ])))
  refine HL.done ?_
  go_wp2
  have rq := (put4_box bR9 (.int .i64 f) (.int .i64 t2) (.int .i64 m2) (.slice A9 r.length c9))
  have hnf := (put4_nx (g := (w.heap.size + 1 + 1)) hX9 (by omega) (.int .i64 f) (.int .i64 t2) (.int .i64 m2) (.slice A9 r.length c9))
  unfold put4 at rq hnf
  have hSf := (((((hS9.low (lo' := w.heap.size + 1 + 1 + 1) (by omega)).far (p := ⟨(w.heap.size + 1 + 1), 0, none⟩) (by simp) (.int .i64 f)).far (p := ⟨(w.heap.size + 1 + 1), 1, none⟩) (by simp) (.int .i64 t2)).far (p := ⟨(w.heap.size + 1 + 1), 2, none⟩) (by simp) (.int .i64 m2)).far (p := ⟨(w.heap.size + 1 + 1), 3, none⟩) (by simp) (.slice A9 r.length c9))
  replace hSf := hSf.low (lo' := w.heap.size) (by omega)
  generalize ((((w3.setCell ⟨(w.heap.size + 1 + 1), 0, none⟩ (.int .i64 f)).setCell ⟨(w.heap.size + 1 + 1), 1, none⟩ (.int .i64 t2)).setCell ⟨(w.heap.size + 1 + 1), 2, none⟩ (.int .i64 m2)).setCell ⟨(w.heap.size + 1 + 1), 3, none⟩ (.slice A9 r.length c9)) = Wf at *
  obtain ⟨rg0, rg1, rg2, rg3⟩ := rq.d4
  exact bodyPost_ret (v := .tuple #[.agg #[.int .i64 f, .int .i64 t2, .int .i64 m2, .slice A9 r.length c9], .int .i64 0]) (by simp [results, Try.results56, go_sem, rg0, rg1, rg2, rg3]) rfl ⟨A9, c9, by rw [HR.out.1, HR.out.2], by rw [HR.out.2]; exact hSf, hnf⟩
end Go.Proofs.Ytihpadelfpogmaa
