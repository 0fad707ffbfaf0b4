/-
  Contracts of the model's l03Ask, l03Forward, l03Backward, Forward and Backward.
  Conditions: the list and the segment can be read, and hold at most 1048576 elements each.
-/
import Derived.Test.YtihpadelfpogmaaFwl
import Derived.Test.YtihpadelfpogmaaSgs
namespace Go.Proofs.Ytihpadelfpogmaa
set_option linter.unusedVariables false
set_option maxRecDepth 100000
open Go.RowKit

set_option maxRecDepth 100000 in
set_option maxHeartbeats 2000000 in
theorem l03Ask_c (A2 : Option Addr) (c2 B : Nat) (xs : List Int) (f t m : Int) (A : Option Addr) (c : Nat) (cs : List Chg) (w : World) (h : Ins w B A2 xs) (hg : Chs w B A cs) (hB : B ≤ w.heap.size) (hn : xs.length ≤ 1048576) (hn2 : cs.length ≤ 1048576) :
    Calls Try.prog 111 #[.slice A2 xs.length c2, .agg #[.int .i64 f, .int .i64 t, .int .i64 m, .slice A cs.length c]] w fun e w' => e = .returned (.int .i64 (askC xs (segB f t m cs))) ∧ Nx w w' := by
  by_cases hl : 4096 < xs.length
  · have hd : decide (4096 < (xs.length : Int)) = true := by simp; omega
    have HR := Lib.hid (askC_long hl (segB f t m cs)).1.symm
    go_enter Try.func111, Try.ntmps111
    go_wp2
    go_ret
    exact ⟨ret_int HR.out, (Nx.refl _).alloc _⟩
  have hd : decide (4096 < (xs.length : Int)) = false := by simp; omega
  cases hc : contB xs <;> cases hs : segB f t m cs <;> (
    have HC := Lib.hid hc
    have HS := Lib.hid hs
    have HR := Lib.hid (askC_short hl hc (rfl : segB f t m cs = segB f t m cs)).symm
    rw [hs] at HR
    clear hc hs
    go_enter Try.func111, Try.ntmps111
    go_wp2_with fail
    have b1 := Box.new w 54 #[.int .i64 f, .int .i64 t, .int .i64 m, .slice A cs.length c]
    have hx1 := (Nx.refl w).alloc (.cells #[.int .i64 f, .int .i64 t, .int .i64 m, .slice A cs.length c] 54)
    generalize w.alloc (.cells #[.int .i64 f, .int .i64 t, .int .i64 m, .slice A cs.length c] 54) = W1 at *
    refine (specContentOK_c A2 c2 B xs _ (h.below hx1 hB) (Nat.le_trans hB hx1.size) hn).mono ?_
    rintro e w1 ⟨rfl, hx2⟩
    rw [HC.out]
    obtain ⟨k0, k1, k2, k3⟩ := (b1.nx hx2).d4
    have hx3 := hx1.trans hx2
    first
      | (go_wp2_with (go_at_call 120; refine (specSegOK_c f t m A c B cs _ (hg.below hx3 hB) (Nat.le_trans hB hx3.size) hn2).mono ?_; rintro e w2 ⟨rfl, hx4⟩; rw [HS.out])
         go_ret
         exact ⟨ret_int HR.out, hx3.trans hx4⟩)
      | (go_wp2
         go_ret
         exact ⟨ret_int HR.out, hx3⟩))
theorem cell_far (w : World) (p q : Addr) (v : Value) (h : q.block ≠ p.block) : (w.setCell p v).cell? q = w.cell? q := by
  unfold World.cell?
  rw [Below.heap_setCell w p v q.block h]
theorem nr_own {w u : World} {A : Option Addr} {xs : List Int} (h : NewRow w u 3 1 A xs.length (inAt xs)) (hp : 0 < xs.length) : ∃ g, A = some ⟨g, 0, none⟩ ∧ w.heap.size ≤ g ∧ Own u g 3 xs.length (inAt xs) := by
  obtain ⟨g, e, hg, ho⟩ := h.2 hp
  rw [Nat.mul_one] at ho
  exact ⟨g, e, hg, ho⟩

set_option maxRecDepth 100000 in
set_option maxHeartbeats 4000000 in
theorem l03Forward_c (A2 : Option Addr) (c2 B : Nat) (xs : List Int) (f t m : Int) (A : Option Addr) (c : Nat) (cs : List Chg) (w : World) (h : Ins w B A2 xs) (hg : Chs w B A cs) (hB : B ≤ w.heap.size) (hok : chsB cs = true) (h8 : xs.length = 8) :
    Calls Try.prog 76 #[.slice A2 xs.length c2, .agg #[.int .i64 f, .int .i64 t, .int .i64 m, .slice A cs.length c]] w (RetI w (app pN xs cs)) := by
  obtain ⟨i0, hi0, hz0, hz1, hz2⟩ := info_parts info_int
  have hl8 := chsB_len hok
  have hto := chsB_to hok
  have H8 := Lib.hid h8
  clear hok h8
  have b1 := (Box.new w 54 #[.int .i64 f, .int .i64 t, .int .i64 m, .slice A cs.length c]).alloc (.cells #[] 3)
  have hx1 := ((Nx.refl w).alloc (.cells #[.int .i64 f, .int .i64 t, .int .i64 m, .slice A cs.length c] 54)).alloc (.cells #[] 3)
  have Hsz := Lib.hid (show ((w.alloc (.cells #[.int .i64 f, .int .i64 t, .int .i64 m, .slice A cs.length c] 54)).alloc (.cells #[] 3)).heap.size = w.heap.size + 1 + 1 by simp only [World.size_alloc])
  go_enter Try.func76, Try.ntmps76
  go_wp2_with (at_builtin; refine wpList_append_new rfl (.tmp 6) (.tmp 7) 22 rfl 3 i0 _ 1 8 Try.underlying22 hi0 hz0 hz1 hz2 (by decide) (by decide) (w.heap.size + 1) A2 xs.length c2 B (inAt xs) rfl rfl (by rw [Nat.mul_one]; exact h.below hx1 hB) (by have := H8.out; omega) ?_)
  intro A9 c9 w1 hnew
  obtain ⟨g, rfl, hgl, hown⟩ := nr_own hnew (by have := H8.out; omega)
  have hx2 := hnew.1
  have b2 := b1.nx hx2
  have hX2 := hx1.trans hx2
  have hgw : w.heap.size < g := by have := Hsz.out; omega
  clear hnew b1 hx1 hx2 hgl
  go_wp2_with fail
  go_loopw [5] (fun i wr => ∃ k : Nat, k ≤ cs.length ∧ i = .int .i64 k ∧ Own wr g 3 xs.length (inAt (app pN xs (cs.take k))) ∧ Box wr w.heap.size 54 #[.int .i64 f, .int .i64 t, .int .i64 m, .slice A cs.length c] ∧ Nx w wr) (fun i _ => cs.length - (intOf i).toNat)
  case atStart => exact ⟨0, Nat.zero_le _, rfl, hown, b2, hX2⟩
  case round =>
    obtain ⟨k, hk, rfl, hown, bg, hnx⟩ := hrel
    clear b2 hX2
    obtain ⟨_, _, _, d3⟩ := bg.d4
    by_cases hlt : k < cs.length
    · obtain ⟨b, off, rfl, hb, k0, k1, k2⟩ := (hg.below hnx hB).at_ hlt
      obtain ⟨hr0, hr1⟩ := hto.rise k hlt
      obtain ⟨⟨q0, q1, q2⟩, Hq⟩ : ∃ q, Hid (cs.getD k chZ = q) := ⟨_, rfl⟩
      rw [Hq.out] at k0 k1 k2 hr0 hr1
      obtain ⟨n0, rfl⟩ : ∃ n : Nat, q0 = n := ⟨q0.toNat, by simp only at hr0; omega⟩
      have hn0 : n0 < xs.length := by have := H8.out; simp only at hr1; omega
      have hn1 : (n0 : Int) < (xs.length : Int) := by omega
      have hk1 : (k : Int) < (cs.length : Int) := by omega
      have hbg : b ≠ g := by omega
      clear hr0 hr1
      obtain ⟨v, hv⟩ : ∃ v, wr.cell? ⟨g, n0, none⟩ = some v := ⟨_, hown.cell hn0⟩
      have hz := hown.frozen n0
      go_wp2_with fail
      refine wp_region_lex [false, false, false, false, false, false, false, false, false, false, false, false, false, false, true] (fun w' => w'.cell? ⟨w.heap.size, 3, none⟩ = some (.slice (some ⟨b, off, none⟩) cs.length c) ∧ w'.cell? ⟨b, off + k * 3, none⟩ = some (.int .i64 (n0 : Int)) ∧ w'.cell? ⟨b, off + k * 3 + 1, none⟩ = some (.int .i64 q1)) (by kernel_rfl) (by kernel_rfl) rfl (by kernel_rfl) (fun _ _ d _ _ h => by cases d <;> exact h) (by exact ⟨d3, k0, k1⟩) ?_
      repeat (first | (refine HL.take (v := ?_) (by rfl) ?_ ?_; rotate_left; (· (intro w hSw; (try dsimp only at hSw); go_simp; try with_reducible rfl)); (try simp only [Act.put, List.setIfInBounds_toArray, List.set_cons_zero, List.set_cons_succ])) | (refine HL.skip (by rfl) ?_; (try simp only [Act.put, List.setIfInBounds_toArray, List.set_cons_zero, List.set_cons_succ])))
      refine HL.call (by rfl) (fun K hK => ?_)
      go_simp
      refine hK.out _ _ (by exact ⟨(bg.far (p := ⟨g, n0, none⟩) (by simp; omega) (.int .i64 q1)).cell 3, ((cell_far wr ⟨g, n0, none⟩ _ _ (by simp; omega)).trans k0), ((cell_far wr ⟨g, n0, none⟩ _ _ (by simp; omega)).trans k1)⟩) ?_
      clear hK K
      try simp only [Act.put, List.setIfInBounds_toArray, List.set_cons_zero, List.set_cons_succ]
      refine HL.done ?_
      go_wp2
      go_roundw
      case rel =>
        refine ⟨k + 1, by omega, by go_num, (hown.set (k := n0) hn0 (.int .i64 q1)).congr fun i hi => ?_, bg.far (p := ⟨g, n0, none⟩) (by simp; omega) _, (hnx.setCell (p := ⟨g, n0, none⟩) (by simp; omega) _).drew⟩
        rw [app_succ pN xs cs hlt, Hq.out]
        rw [inAt_set _ (by rw [app_len]; simpa using hn0)]
        simp [pN]
      case measure => simp [intOf]; omega
    · obtain rfl : k = cs.length := by omega
      rw [List.take_length] at hown
      go_wp2
      go_ret
      exact ⟨_, c9, by rw [app_len]; rfl, by unfold SlI; rw [app_len]; exact Sl.own hown (by omega), hnx⟩

set_option maxRecDepth 100000 in
set_option maxHeartbeats 4000000 in
theorem specForward_c (A2 : Option Addr) (c2 B : Nat) (xs : List Int) (f t m : Int) (A : Option Addr) (c : Nat) (cs : List Chg) (w : World) (h : Ins w B A2 xs) (hg : Chs w B A cs) (hB : B ≤ w.heap.size) (hn : xs.length ≤ 1048576) (hn2 : cs.length ≤ 1048576) :
    Calls Try.prog 51 #[.slice A2 xs.length c2, .agg #[.int .i64 f, .int .i64 t, .int .i64 m, .slice A cs.length c]] w (RetIC w (fwV pN xs (segB f t m cs) cs) (askC xs (segB f t m cs))) := by
  by_cases hl : 4096 < xs.length
  · have hd : decide (4096 < (xs.length : Int)) = true := by simp; omega
    have HR := Lib.hid (askC_long hl (segB f t m cs)).1
    have HF := Lib.hid (show fwV pN xs (segB f t m cs) cs = [] from fwV_no (by rw [(askC_long hl true).2]; rfl))
    go_enter Try.func51, Try.ntmps51
    go_wp2
    exact bodyPost_ret (v := .tuple #[.slice (some ⟨w.heap.size + 1, 0, none⟩) 0 0, .int .i64 2]) (by simp [results, Try.results51, go_sem]) rfl ⟨_, 0, by rw [HF.out, HR.out]; rfl, by rw [HF.out]; exact Sl.none_ _ _ _ _ _, ((Nx.refl w).alloc _).alloc _⟩
  have hd : decide (4096 < (xs.length : Int)) = false := by simp; omega
  obtain ⟨z, Hz⟩ : ∃ z, Hid (askC xs (segB f t m cs) = z) := ⟨_, rfl⟩
  have b1 := Box.new w 54 #[.int .i64 f, .int .i64 t, .int .i64 m, .slice A cs.length c]
  have hx1 := (Nx.refl w).alloc (.cells #[.int .i64 f, .int .i64 t, .int .i64 m, .slice A cs.length c] 54)
  by_cases hz : z = 0
  case neg =>
    have hd2 : (z != 0) = true := by simp [hz]
    have HF := Lib.hid (show fwV pN xs (segB f t m cs) cs = [] from fwV_no (by
      have := Hz.out
      unfold askC at this
      rw [if_neg hl] at this
      cases hc : (contB xs && segB f t m cs)
      · rfl
      · rw [hc] at this; exact absurd this.symm hz))
    go_enter Try.func51, Try.ntmps51
    go_wp2_with fail
    generalize w.alloc (.cells #[.int .i64 f, .int .i64 t, .int .i64 m, .slice A cs.length c] 54) = W1 at *
    refine (l03Ask_c A2 c2 B xs f t m A c cs _ (h.below hx1 hB) (hg.below hx1 hB) (Nat.le_trans hB hx1.size) hn hn2).mono ?_
    rintro e w1 ⟨rfl, hx2⟩
    rw [Hz.out]
    go_wp2
    exact bodyPost_ret (v := .tuple #[.slice (some ⟨w1.heap.size, 0, none⟩) 0 0, .int .i64 z]) (by simp [results, Try.results51, go_sem]) rfl ⟨_, 0, by rw [HF.out, Hz.out]; rfl, by rw [HF.out]; exact Sl.none_ _ _ _ _ _, (hx1.trans hx2).alloc _⟩
  subst hz
  have HC := Lib.hid (show contB xs = true ∧ segB f t m cs = true by
    have := Hz.out
    unfold askC at this
    rw [if_neg hl] at this
    cases hc : contB xs <;> cases hs : segB f t m cs <;> rw [hc, hs] at this <;> simp at this ⊢)
  have HF := Lib.hid (show fwV pN xs (segB f t m cs) cs = app pN xs cs from fwV_yes (by rw [HC.out.1, HC.out.2]; rfl))
  have H8 := Lib.hid (contB_yes HC.out.1).1
  have HK := Lib.hid (show chsB cs = true by
    have := HC.out.2
    unfold segB at this
    simp only [Bool.and_eq_true] at this
    exact this.2)
  go_enter Try.func51, Try.ntmps51
  go_wp2_with fail
  generalize w.alloc (.cells #[.int .i64 f, .int .i64 t, .int .i64 m, .slice A cs.length c] 54) = W1 at *
  refine (l03Ask_c A2 c2 B xs f t m A c cs _ (h.below hx1 hB) (hg.below hx1 hB) (Nat.le_trans hB hx1.size) hn hn2).mono ?_
  rintro e w1 ⟨rfl, hx2⟩
  rw [Hz.out]
  obtain ⟨k0, k1, k2, k3⟩ := (b1.nx hx2).d4
  have hX2 := hx1.trans hx2
  go_wp2_with fail
  refine (l03Forward_c A2 c2 B xs f t m A c cs _ (h.below hX2 hB) (hg.below hX2 hB) (Nat.le_trans hB hX2.size) HK.out H8.out).mono ?_
  rintro e w2 ⟨A9, c9, rfl, hS9, hx3⟩
  go_wp2
  exact bodyPost_ret (v := .tuple #[.slice A9 (app pN xs cs).length c9, .int .i64 0]) (by simp [results, Try.results51, go_sem]) rfl ⟨A9, c9, by rw [HF.out, Hz.out], by rw [HF.out]; exact hS9.low hX2.size, hX2.trans hx3⟩

set_option maxRecDepth 100000 in
set_option maxHeartbeats 4000000 in
theorem l03Backward_c (A2 : Option Addr) (c2 B : Nat) (xs : List Int) (f t m : Int) (A : Option Addr) (c : Nat) (cs : List Chg) (w : World) (h : Ins w B A2 xs) (hg : Chs w B A cs) (hB : B ≤ w.heap.size) (hok : chsB cs = true) (h8 : xs.length = 8) :
    Calls Try.prog 77 #[.slice A2 xs.length c2, .agg #[.int .i64 f, .int .i64 t, .int .i64 m, .slice A cs.length c]] w (RetI w (app pO xs cs)) := by
  obtain ⟨i0, hi0, hz0, hz1, hz2⟩ := info_parts info_int
  have hl8 := chsB_len hok
  have hto := chsB_to hok
  have H8 := Lib.hid h8
  clear hok h8
  have b1 := (Box.new w 54 #[.int .i64 f, .int .i64 t, .int .i64 m, .slice A cs.length c]).alloc (.cells #[] 3)
  have hx1 := ((Nx.refl w).alloc (.cells #[.int .i64 f, .int .i64 t, .int .i64 m, .slice A cs.length c] 54)).alloc (.cells #[] 3)
  have Hsz := Lib.hid (show ((w.alloc (.cells #[.int .i64 f, .int .i64 t, .int .i64 m, .slice A cs.length c] 54)).alloc (.cells #[] 3)).heap.size = w.heap.size + 1 + 1 by simp only [World.size_alloc])
  go_enter Try.func77, Try.ntmps77
  go_wp2_with (at_builtin; refine wpList_append_new rfl (.tmp 6) (.tmp 7) 22 rfl 3 i0 _ 1 8 Try.underlying22 hi0 hz0 hz1 hz2 (by decide) (by decide) (w.heap.size + 1) A2 xs.length c2 B (inAt xs) rfl rfl (by rw [Nat.mul_one]; exact h.below hx1 hB) (by have := H8.out; omega) ?_)
  intro A9 c9 w1 hnew
  obtain ⟨g, rfl, hgl, hown⟩ := nr_own hnew (by have := H8.out; omega)
  have hx2 := hnew.1
  have b2 := b1.nx hx2
  have hX2 := hx1.trans hx2
  have hgw : w.heap.size < g := by have := Hsz.out; omega
  clear hnew b1 hx1 hx2 hgl
  go_wp2_with fail
  go_loopw [5] (fun i wr => ∃ k : Nat, k ≤ cs.length ∧ i = .int .i64 k ∧ Own wr g 3 xs.length (inAt (app pO xs (cs.take k))) ∧ Box wr w.heap.size 54 #[.int .i64 f, .int .i64 t, .int .i64 m, .slice A cs.length c] ∧ Nx w wr) (fun i _ => cs.length - (intOf i).toNat)
  case atStart => exact ⟨0, Nat.zero_le _, rfl, hown, b2, hX2⟩
  case round =>
    obtain ⟨k, hk, rfl, hown, bg, hnx⟩ := hrel
    clear b2 hX2
    obtain ⟨_, _, _, d3⟩ := bg.d4
    by_cases hlt : k < cs.length
    · obtain ⟨b, off, rfl, hb, k0, k1, k2⟩ := (hg.below hnx hB).at_ hlt
      obtain ⟨hr0, hr1⟩ := hto.rise k hlt
      obtain ⟨⟨q0, q1, q2⟩, Hq⟩ : ∃ q, Hid (cs.getD k chZ = q) := ⟨_, rfl⟩
      rw [Hq.out] at k0 k1 k2 hr0 hr1
      obtain ⟨n0, rfl⟩ : ∃ n : Nat, q0 = n := ⟨q0.toNat, by simp only at hr0; omega⟩
      have hn0 : n0 < xs.length := by have := H8.out; simp only at hr1; omega
      have hn1 : (n0 : Int) < (xs.length : Int) := by omega
      have hk1 : (k : Int) < (cs.length : Int) := by omega
      have hbg : b ≠ g := by omega
      clear hr0 hr1
      obtain ⟨v, hv⟩ : ∃ v, wr.cell? ⟨g, n0, none⟩ = some v := ⟨_, hown.cell hn0⟩
      have hz := hown.frozen n0
      go_wp2_with fail
      refine wp_region_lex [false, false, false, false, false, false, false, false, false, false, false, false, false, false, true] (fun w' => w'.cell? ⟨w.heap.size, 3, none⟩ = some (.slice (some ⟨b, off, none⟩) cs.length c) ∧ w'.cell? ⟨b, off + k * 3, none⟩ = some (.int .i64 (n0 : Int)) ∧ w'.cell? ⟨b, off + k * 3 + 2, none⟩ = some (.int .i64 q2)) (by kernel_rfl) (by kernel_rfl) rfl (by kernel_rfl) (fun _ _ d _ _ h => by cases d <;> exact h) (by exact ⟨d3, k0, k2⟩) ?_
      repeat (first | (refine HL.take (v := ?_) (by rfl) ?_ ?_; rotate_left; (· (intro w hSw; (try dsimp only at hSw); go_simp; try with_reducible rfl)); (try simp only [Act.put, List.setIfInBounds_toArray, List.set_cons_zero, List.set_cons_succ])) | (refine HL.skip (by rfl) ?_; (try simp only [Act.put, List.setIfInBounds_toArray, List.set_cons_zero, List.set_cons_succ])))
      refine HL.call (by rfl) (fun K hK => ?_)
      go_simp
      refine hK.out _ _ (by exact ⟨(bg.far (p := ⟨g, n0, none⟩) (by simp; omega) (.int .i64 q2)).cell 3, ((cell_far wr ⟨g, n0, none⟩ _ _ (by simp; omega)).trans k0), ((cell_far wr ⟨g, n0, none⟩ _ _ (by simp; omega)).trans k2)⟩) ?_
      clear hK K
      try simp only [Act.put, List.setIfInBounds_toArray, List.set_cons_zero, List.set_cons_succ]
      refine HL.done ?_
      go_wp2
      go_roundw
      case rel =>
        refine ⟨k + 1, by omega, by go_num, (hown.set (k := n0) hn0 (.int .i64 q2)).congr fun i hi => ?_, bg.far (p := ⟨g, n0, none⟩) (by simp; omega) _, (hnx.setCell (p := ⟨g, n0, none⟩) (by simp; omega) _).drew⟩
        rw [app_succ pO xs cs hlt, Hq.out]
        rw [inAt_set _ (by rw [app_len]; simpa using hn0)]
        simp [pO]
      case measure => simp [intOf]; omega
    · obtain rfl : k = cs.length := by omega
      rw [List.take_length] at hown
      go_wp2
      go_ret
      exact ⟨_, c9, by rw [app_len]; rfl, by unfold SlI; rw [app_len]; exact Sl.own hown (by omega), hnx⟩

end Go.Proofs.Ytihpadelfpogmaa
