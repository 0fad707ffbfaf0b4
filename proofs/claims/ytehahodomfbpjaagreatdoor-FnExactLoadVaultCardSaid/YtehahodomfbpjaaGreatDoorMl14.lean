/-
  Texts of the proof, put together in their order: Sgd.
  Conditions: those of each.
-/
import Derived.Test.YtehahodomfbpjaaGreatDoorMl13
/- Contract of the model's l02Read. Conditions: texts of at most 65536 bytes. -/
namespace Go.Proofs.YtehahodomfbpjaaGreatDoor
set_option linter.unusedVariables false
set_option maxRecDepth 100000
open Go.RowKit

theorem owns_new03 (w : World) {B : Nat} (hB : B ≤ w.heap.size) : (w.alloc (.cells #[] 202)).ownsRow B 202 3 (.slice (some ⟨w.heap.size, 0, none⟩) 0 0) 0 [] :=
  ⟨rfl, .inr ⟨_, 0, #[], rfl, hB, heap_alloc_new w _, by omega, by unfold maxLen; omega, rfl, rfl⟩⟩
set_option maxRecDepth 100000 in
set_option maxHeartbeats 8000000 in
theorem l02Read_c (t : ByteArray) (w : World) (ht : t.size ≤ 65536) : Calls Tryz.prog 125 #[.string t] w (RetST w (rdG t) (.bool false) (.bool true)) := by
  obtain ⟨i0, hi0, hz0, hz1, hz2⟩ := info_parts info_chg
  have b0 := Box.new w 130 #[.int .i64 0, .int .i64 0, .int .i64 0, .slice none 0 0]
  have hx0 := (Nx.refl w).alloc (.cells #[.int .i64 0, .int .i64 0, .int .i64 0, .slice none 0 0] 130)
  go_enter Tryz.func125, Tryz.ntmps125
  go_wp2_with fail
  generalize w.alloc (.cells #[.int .i64 0, .int .i64 0, .int .i64 0, .slice none 0 0] 130) = W at *
  refine (l02Open_c t _ (by omega)).mono ?_
  rintro e w0 ⟨x, rfl, hxs, hxb, hnx0⟩
  go_wp2_with fail
  refine (l02Numbers_c x _ (by omega)).mono ?_
  rintro e w1 ⟨A, n, c, rfl, hr, hnx1⟩
  have b1 := (b0.nx hnx0).nx hnx1
  have hxw := (hx0.trans hnx0).trans hnx1
  clear b0 hx0 hnx0 hnx1
  cases ho : opensB t with
  | false =>
    have HF := Lib.hid (rdG_none (rdN_no ho))
    clear ho hxb hr
    obtain ⟨c0, c1, c2, c3⟩ := b1.d4
    have f0 := b1.frozen 0
    have f1 := b1.frozen 1
    have f2 := b1.frozen 2
    have f3 := b1.frozen 3
    go_wp2
    have q := (put4_box b1 (.int .i64 0) (.int .i64 0) (.int .i64 0) (.slice none 0 0))
    have hnf := (put4_nx hxw (Nat.le_refl w.heap.size) (.int .i64 0) (.int .i64 0) (.int .i64 0) (.slice none 0 0))
    change bodyPost _ _ _ _ _ (put4 w1 w.heap.size (.int .i64 0) (.int .i64 0) (.int .i64 0) (.slice none 0 0))
    change Box (put4 w1 w.heap.size (.int .i64 0) (.int .i64 0) (.int .i64 0) (.slice none 0 0)) _ _ _ at q
    generalize put4 w1 w.heap.size (.int .i64 0) (.int .i64 0) (.int .i64 0) (.slice none 0 0) = Wf at *
    obtain ⟨g0, g1, g2, g3⟩ := q.d4
    exact bodyPost_ret (v := .tuple #[.agg #[.int .i64 0, .int .i64 0, .int .i64 0, .slice none 0 0], .bool false]) (by simp [results, Tryz.results125, go_sem, g0, g1, g2, g3]) rfl (RetST.no HF.out hnf)
  | true =>
  obtain rfl := hxb ho
  have HR := Lib.hid (rdN_yes ho)
  clear ho hxb
  cases hn : numsO (bodyOf t).data.toList with
  | none =>
    have HF := Lib.hid (rdG_none (HR.out.trans hn))
    clear hr hn
    simp only [Option.isSome_none]
    obtain ⟨c0, c1, c2, c3⟩ := b1.d4
    have f0 := b1.frozen 0
    have f1 := b1.frozen 1
    have f2 := b1.frozen 2
    have f3 := b1.frozen 3
    go_wp2
    have q := (put4_box b1 (.int .i64 0) (.int .i64 0) (.int .i64 0) (.slice none 0 0))
    have hnf := (put4_nx hxw (Nat.le_refl w.heap.size) (.int .i64 0) (.int .i64 0) (.int .i64 0) (.slice none 0 0))
    change bodyPost _ _ _ _ _ (put4 w1 w.heap.size (.int .i64 0) (.int .i64 0) (.int .i64 0) (.slice none 0 0))
    change Box (put4 w1 w.heap.size (.int .i64 0) (.int .i64 0) (.int .i64 0) (.slice none 0 0)) _ _ _ at q
    generalize put4 w1 w.heap.size (.int .i64 0) (.int .i64 0) (.int .i64 0) (.slice none 0 0) = Wf at *
    obtain ⟨g0, g1, g2, g3⟩ := q.d4
    exact bodyPost_ret (v := .tuple #[.agg #[.int .i64 0, .int .i64 0, .int .i64 0, .slice none 0 0], .bool false]) (by simp [results, Tryz.results125, go_sem, g0, g1, g2, g3]) rfl (RetST.no HF.out hnf)
  | some ns =>
    obtain ⟨rfl, hrow, _⟩ := hr ns hn
    have HN := Lib.hid (HR.out.trans hn)
    clear hr hn
    simp only [Option.isSome_some]
    have HNL := Lib.hid (rdN_len ht HN.out)
    by_cases hl3 : 3 ≤ ns.length
    case neg =>
      have HF := Lib.hid (rdG_len HN.out (okLen_no (fun h => hl3 h.1)))
      have hd3 : decide ((ns.length : Int) < 3) = true := by simp; omega
      obtain ⟨c0, c1, c2, c3⟩ := b1.d4
      have f0 := b1.frozen 0
      have f1 := b1.frozen 1
      have f2 := b1.frozen 2
      have f3 := b1.frozen 3
      go_wp2
      have q := (put4_box b1 (.int .i64 0) (.int .i64 0) (.int .i64 0) (.slice none 0 0))
      have hnf := (put4_nx hxw (Nat.le_refl w.heap.size) (.int .i64 0) (.int .i64 0) (.int .i64 0) (.slice none 0 0))
      change bodyPost _ _ _ _ _ (put4 w1 w.heap.size (.int .i64 0) (.int .i64 0) (.int .i64 0) (.slice none 0 0))
      change Box (put4 w1 w.heap.size (.int .i64 0) (.int .i64 0) (.int .i64 0) (.slice none 0 0)) _ _ _ at q
      generalize put4 w1 w.heap.size (.int .i64 0) (.int .i64 0) (.int .i64 0) (.slice none 0 0) = Wf at *
      obtain ⟨g0, g1, g2, g3⟩ := q.d4
      exact bodyPost_ret (v := .tuple #[.agg #[.int .i64 0, .int .i64 0, .int .i64 0, .slice none 0 0], .bool false]) (by simp [results, Tryz.results125, go_sem, g0, g1, g2, g3]) rfl (RetST.no HF.out hnf)
    have hd3 : decide ((ns.length : Int) < 3) = false := by simp; omega
    by_cases hlm : ns.length % 3 = 0
    case neg =>
      have HF := Lib.hid (rdG_len HN.out (okLen_no (fun h => hlm h.2)))
      have hdm : decide (0 < (ns.length : Int) % 3) = true := by simp; omega
      obtain ⟨c0, c1, c2, c3⟩ := b1.d4
      have f0 := b1.frozen 0
      have f1 := b1.frozen 1
      have f2 := b1.frozen 2
      have f3 := b1.frozen 3
      go_wp2
      have q := (put4_box b1 (.int .i64 0) (.int .i64 0) (.int .i64 0) (.slice none 0 0))
      have hnf := (put4_nx hxw (Nat.le_refl w.heap.size) (.int .i64 0) (.int .i64 0) (.int .i64 0) (.slice none 0 0))
      change bodyPost _ _ _ _ _ (put4 w1 w.heap.size (.int .i64 0) (.int .i64 0) (.int .i64 0) (.slice none 0 0))
      change Box (put4 w1 w.heap.size (.int .i64 0) (.int .i64 0) (.int .i64 0) (.slice none 0 0)) _ _ _ at q
      generalize put4 w1 w.heap.size (.int .i64 0) (.int .i64 0) (.int .i64 0) (.slice none 0 0) = Wf at *
      obtain ⟨g0, g1, g2, g3⟩ := q.d4
      exact bodyPost_ret (v := .tuple #[.agg #[.int .i64 0, .int .i64 0, .int .i64 0, .slice none 0 0], .bool false]) (by simp [results, Tryz.results125, go_sem, g0, g1, g2, g3]) rfl (RetST.no HF.out hnf)
    case pos =>
      have hdm : decide (0 < (ns.length : Int) % 3) = false := by simp; omega
      obtain ⟨N, hN⟩ : ∃ N, ns.length = 3 + 3 * N := ⟨ns.length / 3 - 1, by omega⟩
      have HNN := Lib.hid hN
      have HOL := Lib.hid (okLen_yes hl3 hlm)
      clear hN hlm
      obtain ⟨b, off, rfl, hb, hcl⟩ := hrow.at0 (by omega)
      obtain ⟨n0, Hn0⟩ : ∃ n, Hid (ns.getD 0 0 = n) := ⟨_, rfl⟩
      obtain ⟨n1, Hn1⟩ : ∃ n, Hid (ns.getD 1 0 = n) := ⟨_, rfl⟩
      obtain ⟨n2, Hn2⟩ : ∃ n, Hid (ns.getD 2 0 = n) := ⟨_, rfl⟩
      have k0 : w1.cell? ⟨b, off, none⟩ = some (.int .i64 n0) := by have := hcl 0 (by omega); unfold intAt at this; rw [Hn0.out] at this; exact this
      have k1 : w1.cell? ⟨b, off + 1, none⟩ = some (.int .i64 n1) := by have := hcl 1 (by omega); unfold intAt at this; rw [Hn1.out] at this; exact this
      have k2 : w1.cell? ⟨b, off + 2, none⟩ = some (.int .i64 n2) := by have := hcl 2 (by omega); unfold intAt at this; rw [Hn2.out] at this; exact this
      have HCL := Lib.hid hcl
      have hi0' : (0 : Int) < (ns.length : Int) := by omega
      have hi1' : (1 : Int) < (ns.length : Int) := by omega
      have hi2' : (2 : Int) < (ns.length : Int) := by omega
      have hm0 : 0 < ns.length := by omega
      have hm1 : 1 < ns.length := by omega
      have hm2 : 2 < ns.length := by omega
      clear hcl hrow
      go_wp2_with fail
      refine wp_region_plan (.t 0 (.t 1 (.t 2 (.t 3 (.t 4 (.t 5 (.t 6 (.t 7 (.t 8 (.b 9 (.t 10 (.c 11 (.c 12 .e))) 11 (.c 9 (.t 10 (.c 12 .e))))))))))))) (fun w' => w'.cell? ⟨b, off, none⟩ = some (.int .i64 n0) ∧ w'.cell? ⟨b, off + 1, none⟩ = some (.int .i64 n1) ∧ w'.cell? ⟨b, off + 2, none⟩ = some (.int .i64 n2)) (by kernel_rfl) (by kernel_rfl) rfl (by kernel_rfl) (fun _ _ d _ _ h => by cases d <;> exact h) (by exact ⟨k0, k1, k2⟩) ?_
      simp only [psOf, List.getD_cons_zero, List.getD_cons_succ]
      repeat (first | (refine HP.take (v := ?_) (by rfl) ?_ ?_; rotate_left; (· (intro w hSw; (try dsimp only at hSw); go_simp; try with_reducible rfl)); (try simp only [Act.put, List.setIfInBounds_toArray, List.set_cons_zero, List.set_cons_succ])) | (refine HP.skip (by rfl) ?_; (try simp only [Act.put, List.setIfInBounds_toArray, List.set_cons_zero, List.set_cons_succ])))
      refine HP.both ?_ ?_
      · refine CallStep.mk (by rfl) (fun K hK => ?_)
        go_simp
        refine hK.out _ _ (by exact ⟨(((Nx.refl w1).drew.alloc (.cells #[] 202)).cell (p := ⟨b, off, none⟩) hb).trans k0, (((Nx.refl w1).drew.alloc (.cells #[] 202)).cell (p := ⟨b, off + 1, none⟩) hb).trans k1, (((Nx.refl w1).drew.alloc (.cells #[] 202)).cell (p := ⟨b, off + 2, none⟩) hb).trans k2⟩) ?_
        clear hK K
        try simp only [Act.put, List.setIfInBounds_toArray, List.set_cons_zero, List.set_cons_succ]
        repeat (first | (refine HP.take (v := ?_) (by rfl) ?_ ?_; rotate_left; (· (intro w hSw; (try dsimp only at hSw); go_simp; try with_reducible rfl)); (try simp only [Act.put, List.setIfInBounds_toArray, List.set_cons_zero, List.set_cons_succ])) | (refine HP.skip (by rfl) ?_; (try simp only [Act.put, List.setIfInBounds_toArray, List.set_cons_zero, List.set_cons_succ])))
        refine HP.call ?_
        refine CallStep.mk (by rfl) (fun K hK => ?_)
        go_simp
        refine hK.out _ _ (by exact ⟨((((Nx.refl w1).drew.alloc (.cells #[] 202)).alloc (.cells #[.int .i64 0, .int .i64 0, .int .i64 0, .slice none 0 0] 130)).cell (p := ⟨b, off, none⟩) hb).trans k0, ((((Nx.refl w1).drew.alloc (.cells #[] 202)).alloc (.cells #[.int .i64 0, .int .i64 0, .int .i64 0, .slice none 0 0] 130)).cell (p := ⟨b, off + 1, none⟩) hb).trans k1, ((((Nx.refl w1).drew.alloc (.cells #[] 202)).alloc (.cells #[.int .i64 0, .int .i64 0, .int .i64 0, .slice none 0 0] 130)).cell (p := ⟨b, off + 2, none⟩) hb).trans k2⟩) ?_
        clear hK K
        try simp only [Act.put, List.setIfInBounds_toArray, List.set_cons_zero, List.set_cons_succ]
        refine HP.call ?_
        refine CallStep.mk (by rfl) (fun K hK => ?_)
        go_simp
        refine hK.out _ _ (by exact ⟨((((Nx.refl w1).drew.alloc (.cells #[] 202)).alloc (.cells #[.int .i64 n0, .int .i64 n1, .int .i64 n2, .slice (some ⟨w1.heap.size, 0, none⟩) 0 0] 130)).cell (p := ⟨b, off, none⟩) hb).trans k0, ((((Nx.refl w1).drew.alloc (.cells #[] 202)).alloc (.cells #[.int .i64 n0, .int .i64 n1, .int .i64 n2, .slice (some ⟨w1.heap.size, 0, none⟩) 0 0] 130)).cell (p := ⟨b, off + 1, none⟩) hb).trans k1, ((((Nx.refl w1).drew.alloc (.cells #[] 202)).alloc (.cells #[.int .i64 n0, .int .i64 n1, .int .i64 n2, .slice (some ⟨w1.heap.size, 0, none⟩) 0 0] 130)).cell (p := ⟨b, off + 2, none⟩) hb).trans k2⟩) ?_
        clear hK K
        try simp only [Act.put, List.setIfInBounds_toArray, List.set_cons_zero, List.set_cons_succ]
        refine HP.done ?_
        clear k0 k1 k2 hm0 hm1 hm2 hi0' hi1' hi2'
        have bg0 : Box (World.drew ((w1.alloc (.cells #[] 202)).alloc (.cells #[.int .i64 n0, .int .i64 n1, .int .i64 n2, .slice (some ⟨w1.heap.size, 0, none⟩) 0 0] 130))) (w1.heap.size + 1) 130 #[.int .i64 n0, .int .i64 n1, .int .i64 n2, .slice (some ⟨w1.heap.size, 0, none⟩) 0 0] := by have := Box.new (w1.alloc (.cells #[] 202)) 130 #[.int .i64 n0, .int .i64 n1, .int .i64 n2, .slice (some ⟨w1.heap.size, 0, none⟩) 0 0]; simp only [World.size_alloc] at this; exact this
        have hw0 : World.ownsRow (World.drew ((w1.alloc (.cells #[] 202)).alloc (.cells #[.int .i64 n0, .int .i64 n1, .int .i64 n2, .slice (some ⟨w1.heap.size, 0, none⟩) 0 0] 130))) w1.heap.size 202 3 (.slice (some ⟨w1.heap.size, 0, none⟩) 0 0) 0 [] := (owns_new03 w1 (Nat.le_refl _)).alloc (.cells #[.int .i64 n0, .int .i64 n1, .int .i64 n2, .slice (some ⟨w1.heap.size, 0, none⟩) 0 0] 130)
        have hx3 : Nx w1 (World.drew ((w1.alloc (.cells #[] 202)).alloc (.cells #[.int .i64 n0, .int .i64 n1, .int .i64 n2, .slice (some ⟨w1.heap.size, 0, none⟩) 0 0] 130))) := (((Nx.refl w1).drew.alloc (.cells #[] 202)).alloc (.cells #[.int .i64 n0, .int .i64 n1, .int .i64 n2, .slice (some ⟨w1.heap.size, 0, none⟩) 0 0] 130))
        have hgG : w1.heap.size ≤ (w1.heap.size + 1) := by omega
        change Exit.then _ _ _ _ (World.drew ((w1.alloc (.cells #[] 202)).alloc (.cells #[.int .i64 n0, .int .i64 n1, .int .i64 n2, .slice (some ⟨w1.heap.size, 0, none⟩) 0 0] 130)))
        generalize (World.drew ((w1.alloc (.cells #[] 202)).alloc (.cells #[.int .i64 n0, .int .i64 n1, .int .i64 n2, .slice (some ⟨w1.heap.size, 0, none⟩) 0 0] 130))) = w3 at *
        obtain ⟨gG, HgG⟩ : ∃ g, Hid ((w1.heap.size + 1) = g) := ⟨_, rfl⟩
        rw [HgG.out] at bg0 hgG ⊢
        go_wp2
        go_loopw [9] (fun i wr => SegLoop w1 gG n0 n1 n2 ns i wr) (fun i _ => ns.length - (intOf i).toNat)
        case atStart => exact ⟨0, 3, _, hl3, Lib.hid rfl, rfl, bg0, hw0, hx3⟩
        case round =>
          obtain ⟨k, p, v, hp, HPp, rfl, bg, hw, hnx⟩ := hrel
          clear bg0 hx3 hw0
          by_cases hlt : p < ns.length
          · have hp3 : p + 3 ≤ ns.length := by have := HPp.out; have := HNN.out; omega
            have hn9 : ns.length ≤ 65536 := HNL.out
            obtain ⟨q0, Hq0⟩ : ∃ n, Hid (ns.getD p 0 = n) := ⟨_, rfl⟩
            obtain ⟨q1, Hq1⟩ : ∃ n, Hid (ns.getD (p + 1) 0 = n) := ⟨_, rfl⟩
            obtain ⟨q2, Hq2⟩ : ∃ n, Hid (ns.getD (p + 2) 0 = n) := ⟨_, rfl⟩
            have m0 : w1.cell? ⟨b, off + p, none⟩ = some (.int .i64 q0) := by have := HCL.out p (by omega); unfold intAt at this; rw [Hq0.out] at this; exact this
            have m1 : w1.cell? ⟨b, off + (p + 1), none⟩ = some (.int .i64 q1) := by have := HCL.out (p + 1) (by omega); unfold intAt at this; rw [Hq1.out] at this; exact this
            have m2 : w1.cell? ⟨b, off + (p + 2), none⟩ = some (.int .i64 q2) := by have := HCL.out (p + 2) (by omega); unfold intAt at this; rw [Hq2.out] at this; exact this
            have HQ := Lib.hid (show chV (chN3 ns k) = [.int .i64 q0, .int .i64 q1, .int .i64 q2] by
              unfold chV chN3; rw [← HPp.out, Hq0.out, Hq1.out, Hq2.out])
            have HO : Hid (∀ u ∈ [Value.int .i64 (q0 : Int), .int .i64 q1, .int .i64 q2], u.oneCell' = true) := Lib.hid (fun u hu => by simp only [List.mem_cons, List.not_mem_nil, or_false] at hu; rcases hu with rfl | rfl | rfl <;> rfl)
            have hbw := hb
            have hk9 : k ≤ 100000 := by have := HPp.out; omega
            obtain ⟨_, _, _, c3⟩ := bg.d4
            have hw1a : (p : Int) + 1 < (ns.length : Int) := by omega
            have hw1b : (p : Int) + 2 < (ns.length : Int) := by omega
            have hw1c : (p : Int) < (ns.length : Int) := by omega
            have hw2a : ((p : Int) + 1).toNat = p + 1 := by omega
            have hw2b : ((p : Int) + 2).toNat = p + 2 := by omega
            have hw3a : (0 : Int) ≤ (p : Int) + 1 := by omega
            have hw3b : (0 : Int) ≤ (p : Int) + 2 := by omega
            have hw4a : IntKind.i64.wrap ((p : Int) + 1) = (p : Int) + 1 := IntWalk.i64_in _ (by omega)
            have hw4b : IntKind.i64.wrap ((p : Int) + 2) = (p : Int) + 2 := IntWalk.i64_in _ (by omega)
            go_wp2_with fail
            refine wp_region_plan (.t 0 (.t 2 (.t 3 (.t 4 (.t 5 (.t 6 (.t 7 (.t 8 (.t 9 (.t 10 (.t 11 (.t 12 (.t 13 (.t 14 (.t 15 (.t 16 (.b 1 (.c 17 (.c 18 (.t 19 (.c 20 .e)))) 17 (.c 1 (.c 18 (.t 19 (.c 20 .e))))))))))))))))))))) (fun w' => w'.cell? ⟨b, off + p, none⟩ = some (.int .i64 q0) ∧ w'.cell? ⟨b, off + (p + 1), none⟩ = some (.int .i64 q1) ∧ w'.cell? ⟨b, off + (p + 2), none⟩ = some (.int .i64 q2)) (by kernel_rfl) (by kernel_rfl) rfl (by kernel_rfl) (fun _ _ d _ _ h => by cases d <;> exact h) (by exact ⟨(hnx.drew.cell (p := ⟨b, off + p, none⟩) hbw).trans m0, (hnx.drew.cell (p := ⟨b, off + (p + 1), none⟩) hbw).trans m1, (hnx.drew.cell (p := ⟨b, off + (p + 2), none⟩) hbw).trans m2⟩) ?_
            simp only [psOf, List.getD_cons_zero, List.getD_cons_succ]
            repeat (first | (refine HP.take (v := ?_) (by rfl) ?_ ?_; rotate_left; (· (intro w hSw; (try dsimp only at hSw); go_simp; try with_reducible rfl)); (try simp only [Act.put, List.setIfInBounds_toArray, List.set_cons_zero, List.set_cons_succ])) | (refine HP.skip (by rfl) ?_; (try simp only [Act.put, List.setIfInBounds_toArray, List.set_cons_zero, List.set_cons_succ])))
            refine HP.both ?_ ?_
            · have hx1 := hnx.drew.alloc (.cells #[.int .i64 q0, .int .i64 q1, .int .i64 q2] 202)
              have hw1 := (owns_nx3 hw (Nx.refl wr).drew).alloc (.cells #[.int .i64 q0, .int .i64 q1, .int .i64 q2] 202)
              have bz := (bg.nx (Nx.refl wr).drew).alloc (.cells #[.int .i64 q0, .int .i64 q1, .int .i64 q2] 202)
              have HNW := Lib.hid (news3 wr.drew 202 (.int .i64 q0) (.int .i64 q1) (.int .i64 q2))
              have hlt := bg.lt
              refine CallStep.mk (by rfl) (fun K hK => ?_)
              go_simp
              refine hK.out _ _ (by exact ⟨(hnx.drew.cell (p := ⟨b, off + p, none⟩) hbw).trans m0, (hnx.drew.cell (p := ⟨b, off + (p + 1), none⟩) hbw).trans m1, (hnx.drew.cell (p := ⟨b, off + (p + 2), none⟩) hbw).trans m2⟩) ?_
              clear hK K
              try simp only [Act.put, List.setIfInBounds_toArray, List.set_cons_zero, List.set_cons_succ]
              refine HP.call ?_
              refine CallStep.mk (by rfl) (fun K hK => ?_)
              go_simp
              refine hK.out _ _ (by exact ⟨(hx1.cell (p := ⟨b, off + p, none⟩) hbw).trans m0, (hx1.cell (p := ⟨b, off + (p + 1), none⟩) hbw).trans m1, (hx1.cell (p := ⟨b, off + (p + 2), none⟩) hbw).trans m2⟩) ?_
              clear hK K
              try simp only [Act.put, List.setIfInBounds_toArray, List.set_cons_zero, List.set_cons_succ]
              change HP _ _ _ _ _ _ (wr.drew.alloc (.cells #[.int .i64 q0, .int .i64 q1, .int .i64 q2] 202))
              generalize wr.drew.alloc (.cells #[.int .i64 q0, .int .i64 q1, .int .i64 q2] 202) = wz at *
              refine HP.call ?_
              refine CallStep.mk (by rfl) (fun K hK => ?_)
              refine wp_append_own wz _ _ 128 rfl w1.heap.size 202 i0 _ 3 24 Tryz.underlying128 hi0 hz0 hz1 hz2 rfl (by omega) v k _ rfl hw1 ⟨wr.heap.size, 0, none⟩ 1 1 [.int .i64 q0, .int .i64 q1, .int .i64 q2] rfl rfl HNW.out HO.out (by unfold maxLen; omega) (by omega) hx1.size ?_
              intro v2 w2 hw2 hg2 _
              obtain ⟨g2, cp2, rfl, _, _⟩ := hw2.form (by omega)
              have hx2 : Nx w1 w2 := Below.grown hx1 hg2 hx1.size (fun k hk => (hw1.lt k hk).1)
              have bg2 : Box w2 gG 130 #[.int .i64 n0, .int .i64 n1, .int .i64 n2, v] := bz.grown hg2 (owns_ne hw1 bz)
              refine hK.out _ _ (by exact ⟨(hx2.cell (p := ⟨b, off + p, none⟩) hbw).trans m0, (hx2.cell (p := ⟨b, off + (p + 1), none⟩) hbw).trans m1, (hx2.cell (p := ⟨b, off + (p + 2), none⟩) hbw).trans m2⟩) ?_
              clear hK K
              try simp only [Act.put, List.setIfInBounds_toArray, List.set_cons_zero, List.set_cons_succ]
              repeat (first | (refine HP.take (v := ?_) (by rfl) ?_ ?_; rotate_left; (· (intro w hSw; (try dsimp only at hSw); go_simp; try with_reducible rfl)); (try simp only [Act.put, List.setIfInBounds_toArray, List.set_cons_zero, List.set_cons_succ])) | (refine HP.skip (by rfl) ?_; (try simp only [Act.put, List.setIfInBounds_toArray, List.set_cons_zero, List.set_cons_succ])))
              obtain ⟨_, _, _, d3⟩ := bg2.d4
              have f3 := bg2.frozen 3
              refine HP.call ?_
              refine CallStep.mk (by rfl) (fun K hK => ?_)
              go_simp
              have hx3 := hx2.setCell (p := ⟨gG, 3, none⟩) hgG (.slice (some ⟨g2, 0, none⟩) (k + 1) cp2)
              refine hK.out _ _ (by exact ⟨(hx3.cell (p := ⟨b, off + p, none⟩) hbw).trans m0, (hx3.cell (p := ⟨b, off + (p + 1), none⟩) hbw).trans m1, (hx3.cell (p := ⟨b, off + (p + 2), none⟩) hbw).trans m2⟩) ?_
              clear hK K
              try simp only [Act.put, List.setIfInBounds_toArray, List.set_cons_zero, List.set_cons_succ]
              refine HP.done ?_
              clear hw1a hw1b hw1c hw2a hw2b hw3a hw3b hw4a hw4b
              have bg3 := bg2.set 3 (.slice (some ⟨g2, 0, none⟩) (k + 1) cp2)
              have hw3 := owns_far (u := (.slice (some ⟨g2, 0, none⟩) (k + 1) cp2)) (i := 3) hw2 bg2
              clear d3 f3 c3
              go_wp2
              go_roundw
              case rel =>
                refine ⟨k + 1, p + 3, _, by omega, Lib.hid (by have := HPp.out; omega), by go_num, bg3, ?_, hx3⟩
                rw [chsV_succ, HQ.out]; exact hw3
              case measure => simp [intOf]; omega
            · have hx1 := hnx.drew.alloc (.cells #[.int .i64 q0, .int .i64 q1, .int .i64 q2] 202)
              have hw1 := (owns_nx3 hw (Nx.refl wr).drew).alloc (.cells #[.int .i64 q0, .int .i64 q1, .int .i64 q2] 202)
              have bz := (bg.nx (Nx.refl wr).drew).alloc (.cells #[.int .i64 q0, .int .i64 q1, .int .i64 q2] 202)
              have HNW := Lib.hid (news3 wr.drew 202 (.int .i64 q0) (.int .i64 q1) (.int .i64 q2))
              have hlt := bg.lt
              refine CallStep.mk (by rfl) (fun K hK => ?_)
              go_simp
              refine hK.out _ _ (by exact ⟨(hx1.cell (p := ⟨b, off + p, none⟩) hbw).trans m0, (hx1.cell (p := ⟨b, off + (p + 1), none⟩) hbw).trans m1, (hx1.cell (p := ⟨b, off + (p + 2), none⟩) hbw).trans m2⟩) ?_
              clear hK K
              try simp only [Act.put, List.setIfInBounds_toArray, List.set_cons_zero, List.set_cons_succ]
              refine HP.call ?_
              refine CallStep.mk (by rfl) (fun K hK => ?_)
              go_simp
              refine hK.out _ _ (by exact ⟨(hx1.cell (p := ⟨b, off + p, none⟩) hbw).trans m0, (hx1.cell (p := ⟨b, off + (p + 1), none⟩) hbw).trans m1, (hx1.cell (p := ⟨b, off + (p + 2), none⟩) hbw).trans m2⟩) ?_
              clear hK K
              try simp only [Act.put, List.setIfInBounds_toArray, List.set_cons_zero, List.set_cons_succ]
              change HP _ _ _ _ _ _ (wr.drew.alloc (.cells #[.int .i64 q0, .int .i64 q1, .int .i64 q2] 202))
              generalize wr.drew.alloc (.cells #[.int .i64 q0, .int .i64 q1, .int .i64 q2] 202) = wz at *
              refine HP.call ?_
              refine CallStep.mk (by rfl) (fun K hK => ?_)
              refine wp_append_own wz _ _ 128 rfl w1.heap.size 202 i0 _ 3 24 Tryz.underlying128 hi0 hz0 hz1 hz2 rfl (by omega) v k _ rfl hw1 ⟨wr.heap.size, 0, none⟩ 1 1 [.int .i64 q0, .int .i64 q1, .int .i64 q2] rfl rfl HNW.out HO.out (by unfold maxLen; omega) (by omega) hx1.size ?_
              intro v2 w2 hw2 hg2 _
              obtain ⟨g2, cp2, rfl, _, _⟩ := hw2.form (by omega)
              have hx2 : Nx w1 w2 := Below.grown hx1 hg2 hx1.size (fun k hk => (hw1.lt k hk).1)
              have bg2 : Box w2 gG 130 #[.int .i64 n0, .int .i64 n1, .int .i64 n2, v] := bz.grown hg2 (owns_ne hw1 bz)
              refine hK.out _ _ (by exact ⟨(hx2.cell (p := ⟨b, off + p, none⟩) hbw).trans m0, (hx2.cell (p := ⟨b, off + (p + 1), none⟩) hbw).trans m1, (hx2.cell (p := ⟨b, off + (p + 2), none⟩) hbw).trans m2⟩) ?_
              clear hK K
              try simp only [Act.put, List.setIfInBounds_toArray, List.set_cons_zero, List.set_cons_succ]
              repeat (first | (refine HP.take (v := ?_) (by rfl) ?_ ?_; rotate_left; (· (intro w hSw; (try dsimp only at hSw); go_simp; try with_reducible rfl)); (try simp only [Act.put, List.setIfInBounds_toArray, List.set_cons_zero, List.set_cons_succ])) | (refine HP.skip (by rfl) ?_; (try simp only [Act.put, List.setIfInBounds_toArray, List.set_cons_zero, List.set_cons_succ])))
              obtain ⟨_, _, _, d3⟩ := bg2.d4
              have f3 := bg2.frozen 3
              refine HP.call ?_
              refine CallStep.mk (by rfl) (fun K hK => ?_)
              go_simp
              have hx3 := hx2.setCell (p := ⟨gG, 3, none⟩) hgG (.slice (some ⟨g2, 0, none⟩) (k + 1) cp2)
              refine hK.out _ _ (by exact ⟨(hx3.cell (p := ⟨b, off + p, none⟩) hbw).trans m0, (hx3.cell (p := ⟨b, off + (p + 1), none⟩) hbw).trans m1, (hx3.cell (p := ⟨b, off + (p + 2), none⟩) hbw).trans m2⟩) ?_
              clear hK K
              try simp only [Act.put, List.setIfInBounds_toArray, List.set_cons_zero, List.set_cons_succ]
              refine HP.done ?_
              clear hw1a hw1b hw1c hw2a hw2b hw3a hw3b hw4a hw4b
              have bg3 := bg2.set 3 (.slice (some ⟨g2, 0, none⟩) (k + 1) cp2)
              have hw3 := owns_far (u := (.slice (some ⟨g2, 0, none⟩) (k + 1) cp2)) (i := 3) hw2 bg2
              clear d3 f3 c3
              go_wp2
              go_roundw
              case rel =>
                refine ⟨k + 1, p + 3, _, by omega, Lib.hid (by have := HPp.out; omega), by go_num, bg3, ?_, hx3⟩
                rw [chsV_succ, HQ.out]; exact hw3
              case measure => simp [intOf]; omega
          · obtain rfl : p = ns.length := by omega
            have hkN : k = ns.length / 3 - 1 := by have := HPp.out; omega
            have hlen := chOf_len ns k
            have hw' : wr.ownsRow w1.heap.size 202 3 v (chOf ns k).length (chsV (chOf ns k)) := by rw [hlen]; exact hw
            obtain ⟨A2, cp9, rfl, hSl⟩ := owns_slC hw'
            have HQ4 := Lib.hid (show sgOf ns = (n0, n1, n2, chOf ns k) by unfold sgOf; rw [Hn0.out, Hn1.out, Hn2.out, ← hkN])
            have hcl9 : (chOf ns k).length ≤ 1048576 := by rw [hlen]; have := HNL.out; omega
            have bw := b1.nx hnx
            have hxr := hxw.trans hnx
            have hgl : w.heap.size < w1.heap.size := b1.lt
            clear hw hw' hlen hkN
            obtain ⟨x0, x1, x2, x3⟩ := bg.d4
            go_wp2_with fail
            refine (specSegOK_c n0 n1 n2 A2 cp9 _ (chOf ns k) _ hSl.row (Nat.le_refl _) hcl9).mono ?_
            rintro e w5 ⟨rfl, hnx5⟩
            have b5 := bw.nx hnx5
            have bg5 := bg.nx hnx5
            have hx5 := hxr.trans hnx5
            have hS5 := hSl.nx hnx5
            clear x0 x1 x2 x3
            obtain ⟨x0, x1, x2, x3⟩ := bg5.d4
            cases hf : segB n0 n1 n2 (chOf ns k) with
            | false =>
              have HF := Lib.hid (rdG_no HN.out (by unfold g4B; rw [HQ4.out]; exact hf))
              clear hf
              obtain ⟨c0, c1, c2, c3⟩ := b5.d4
              have f0 := b5.frozen 0
              have f1 := b5.frozen 1
              have f2 := b5.frozen 2
              have f3 := b5.frozen 3
              go_wp2
              have q := (put4_box b5 (.int .i64 0) (.int .i64 0) (.int .i64 0) (.slice none 0 0))
              have hnf := (put4_nx hx5 (Nat.le_refl w.heap.size) (.int .i64 0) (.int .i64 0) (.int .i64 0) (.slice none 0 0))
              change bodyPost _ _ _ _ _ (put4 w5 w.heap.size (.int .i64 0) (.int .i64 0) (.int .i64 0) (.slice none 0 0))
              change Box (put4 w5 w.heap.size (.int .i64 0) (.int .i64 0) (.int .i64 0) (.slice none 0 0)) _ _ _ at q
              generalize put4 w5 w.heap.size (.int .i64 0) (.int .i64 0) (.int .i64 0) (.slice none 0 0) = Wf at *
              obtain ⟨g0, g1, g2, g3⟩ := q.d4
              exact bodyPost_ret (v := .tuple #[.agg #[.int .i64 0, .int .i64 0, .int .i64 0, .slice none 0 0], .bool false]) (by simp [results, Tryz.results125, go_sem, g0, g1, g2, g3]) rfl (RetST.no HF.out hnf)
              | true =>
              have HF := Lib.hid (rdG_yes HN.out HOL.out (by unfold g4B; rw [HQ4.out]; exact hf))
              clear hf
              obtain ⟨c0, c1, c2, c3⟩ := b5.d4
              have f0 := b5.frozen 0
              have f1 := b5.frozen 1
              have f2 := b5.frozen 2
              have f3 := b5.frozen 3
              go_wp2
              have q := (put4_box b5 (.int .i64 n0) (.int .i64 n1) (.int .i64 n2) (.slice A2 (chOf ns k).length cp9))
              have hnf := (put4_nx hx5 (Nat.le_refl w.heap.size) (.int .i64 n0) (.int .i64 n1) (.int .i64 n2) (.slice A2 (chOf ns k).length cp9))
              have hsf := (hS5.put4 hgl (.int .i64 n0) (.int .i64 n1) (.int .i64 n2) (.slice A2 (chOf ns k).length cp9))
              change Sl (put4 w5 w.heap.size (.int .i64 n0) (.int .i64 n1) (.int .i64 n2) (.slice A2 (chOf ns k).length cp9)) _ _ _ _ _ at hsf
              change bodyPost _ _ _ _ _ (put4 w5 w.heap.size (.int .i64 n0) (.int .i64 n1) (.int .i64 n2) (.slice A2 (chOf ns k).length cp9))
              change Box (put4 w5 w.heap.size (.int .i64 n0) (.int .i64 n1) (.int .i64 n2) (.slice A2 (chOf ns k).length cp9)) _ _ _ at q
              generalize put4 w5 w.heap.size (.int .i64 n0) (.int .i64 n1) (.int .i64 n2) (.slice A2 (chOf ns k).length cp9) = Wf at *
              obtain ⟨g0, g1, g2, g3⟩ := q.d4
              exact bodyPost_ret (v := .tuple #[.agg #[.int .i64 n0, .int .i64 n1, .int .i64 n2, .slice A2 (chOf ns k).length cp9], .bool true]) (by simp [results, Tryz.results125, go_sem, g0, g1, g2, g3]) rfl (RetST.yes HF.out HQ4.out (hsf.low (by omega)) hnf)


      · refine CallStep.mk (by rfl) (fun K hK => ?_)
        go_simp
        refine hK.out _ _ (by exact ⟨(((Nx.refl w1).drew.alloc (.cells #[.int .i64 0, .int .i64 0, .int .i64 0, .slice none 0 0] 130)).cell (p := ⟨b, off, none⟩) hb).trans k0, (((Nx.refl w1).drew.alloc (.cells #[.int .i64 0, .int .i64 0, .int .i64 0, .slice none 0 0] 130)).cell (p := ⟨b, off + 1, none⟩) hb).trans k1, (((Nx.refl w1).drew.alloc (.cells #[.int .i64 0, .int .i64 0, .int .i64 0, .slice none 0 0] 130)).cell (p := ⟨b, off + 2, none⟩) hb).trans k2⟩) ?_
        clear hK K
        try simp only [Act.put, List.setIfInBounds_toArray, List.set_cons_zero, List.set_cons_succ]
        refine HP.call ?_
        refine CallStep.mk (by rfl) (fun K hK => ?_)
        go_simp
        refine hK.out _ _ (by exact ⟨((((Nx.refl w1).drew.alloc (.cells #[.int .i64 0, .int .i64 0, .int .i64 0, .slice none 0 0] 130)).alloc (.cells #[] 202)).cell (p := ⟨b, off, none⟩) hb).trans k0, ((((Nx.refl w1).drew.alloc (.cells #[.int .i64 0, .int .i64 0, .int .i64 0, .slice none 0 0] 130)).alloc (.cells #[] 202)).cell (p := ⟨b, off + 1, none⟩) hb).trans k1, ((((Nx.refl w1).drew.alloc (.cells #[.int .i64 0, .int .i64 0, .int .i64 0, .slice none 0 0] 130)).alloc (.cells #[] 202)).cell (p := ⟨b, off + 2, none⟩) hb).trans k2⟩) ?_
        clear hK K
        try simp only [Act.put, List.setIfInBounds_toArray, List.set_cons_zero, List.set_cons_succ]
        repeat (first | (refine HP.take (v := ?_) (by rfl) ?_ ?_; rotate_left; (· (intro w hSw; (try dsimp only at hSw); go_simp; try with_reducible rfl)); (try simp only [Act.put, List.setIfInBounds_toArray, List.set_cons_zero, List.set_cons_succ])) | (refine HP.skip (by rfl) ?_; (try simp only [Act.put, List.setIfInBounds_toArray, List.set_cons_zero, List.set_cons_succ])))
        refine HP.call ?_
        refine CallStep.mk (by rfl) (fun K hK => ?_)
        go_simp
        refine hK.out _ _ (by exact ⟨((((Nx.refl w1).drew.alloc (.cells #[.int .i64 n0, .int .i64 n1, .int .i64 n2, .slice (some ⟨(w1.heap.size + 1), 0, none⟩) 0 0] 130)).alloc (.cells #[] 202)).cell (p := ⟨b, off, none⟩) hb).trans k0, ((((Nx.refl w1).drew.alloc (.cells #[.int .i64 n0, .int .i64 n1, .int .i64 n2, .slice (some ⟨(w1.heap.size + 1), 0, none⟩) 0 0] 130)).alloc (.cells #[] 202)).cell (p := ⟨b, off + 1, none⟩) hb).trans k1, ((((Nx.refl w1).drew.alloc (.cells #[.int .i64 n0, .int .i64 n1, .int .i64 n2, .slice (some ⟨(w1.heap.size + 1), 0, none⟩) 0 0] 130)).alloc (.cells #[] 202)).cell (p := ⟨b, off + 2, none⟩) hb).trans k2⟩) ?_
        clear hK K
        try simp only [Act.put, List.setIfInBounds_toArray, List.set_cons_zero, List.set_cons_succ]
        refine HP.done ?_
        clear k0 k1 k2 hm0 hm1 hm2 hi0' hi1' hi2'
        have bg0 : Box (World.drew ((w1.alloc (.cells #[.int .i64 n0, .int .i64 n1, .int .i64 n2, .slice (some ⟨(w1.heap.size + 1), 0, none⟩) 0 0] 130)).alloc (.cells #[] 202))) w1.heap.size 130 #[.int .i64 n0, .int .i64 n1, .int .i64 n2, .slice (some ⟨(w1.heap.size + 1), 0, none⟩) 0 0] := (Box.new w1 _ _).alloc (.cells #[] 202)
        have hw0 : World.ownsRow (World.drew ((w1.alloc (.cells #[.int .i64 n0, .int .i64 n1, .int .i64 n2, .slice (some ⟨(w1.heap.size + 1), 0, none⟩) 0 0] 130)).alloc (.cells #[] 202))) w1.heap.size 202 3 (.slice (some ⟨(w1.heap.size + 1), 0, none⟩) 0 0) 0 [] := by have := owns_new03 (w1.alloc (.cells #[.int .i64 n0, .int .i64 n1, .int .i64 n2, .slice (some ⟨(w1.heap.size + 1), 0, none⟩) 0 0] 130)) (B := w1.heap.size) (by simp); simp only [World.size_alloc] at this; exact this
        have hx3 : Nx w1 (World.drew ((w1.alloc (.cells #[.int .i64 n0, .int .i64 n1, .int .i64 n2, .slice (some ⟨(w1.heap.size + 1), 0, none⟩) 0 0] 130)).alloc (.cells #[] 202))) := (((Nx.refl w1).drew.alloc (.cells #[.int .i64 n0, .int .i64 n1, .int .i64 n2, .slice (some ⟨(w1.heap.size + 1), 0, none⟩) 0 0] 130)).alloc (.cells #[] 202))
        have hgG : w1.heap.size ≤ w1.heap.size := by omega
        change Exit.then _ _ _ _ (World.drew ((w1.alloc (.cells #[.int .i64 n0, .int .i64 n1, .int .i64 n2, .slice (some ⟨(w1.heap.size + 1), 0, none⟩) 0 0] 130)).alloc (.cells #[] 202)))
        generalize (World.drew ((w1.alloc (.cells #[.int .i64 n0, .int .i64 n1, .int .i64 n2, .slice (some ⟨(w1.heap.size + 1), 0, none⟩) 0 0] 130)).alloc (.cells #[] 202))) = w3 at *
        go_wp2
        go_loopw [9] (fun i wr => SegLoop w1 w1.heap.size n0 n1 n2 ns i wr) (fun i _ => ns.length - (intOf i).toNat)
        case atStart => exact ⟨0, 3, _, hl3, Lib.hid rfl, rfl, bg0, hw0, hx3⟩
        case round =>
          obtain ⟨k, p, v, hp, HPp, rfl, bg, hw, hnx⟩ := hrel
          clear bg0 hx3 hw0
          by_cases hlt : p < ns.length
          · have hp3 : p + 3 ≤ ns.length := by have := HPp.out; have := HNN.out; omega
            have hn9 : ns.length ≤ 65536 := HNL.out
            obtain ⟨q0, Hq0⟩ : ∃ n, Hid (ns.getD p 0 = n) := ⟨_, rfl⟩
            obtain ⟨q1, Hq1⟩ : ∃ n, Hid (ns.getD (p + 1) 0 = n) := ⟨_, rfl⟩
            obtain ⟨q2, Hq2⟩ : ∃ n, Hid (ns.getD (p + 2) 0 = n) := ⟨_, rfl⟩
            have m0 : w1.cell? ⟨b, off + p, none⟩ = some (.int .i64 q0) := by have := HCL.out p (by omega); unfold intAt at this; rw [Hq0.out] at this; exact this
            have m1 : w1.cell? ⟨b, off + (p + 1), none⟩ = some (.int .i64 q1) := by have := HCL.out (p + 1) (by omega); unfold intAt at this; rw [Hq1.out] at this; exact this
            have m2 : w1.cell? ⟨b, off + (p + 2), none⟩ = some (.int .i64 q2) := by have := HCL.out (p + 2) (by omega); unfold intAt at this; rw [Hq2.out] at this; exact this
            have HQ := Lib.hid (show chV (chN3 ns k) = [.int .i64 q0, .int .i64 q1, .int .i64 q2] by
              unfold chV chN3; rw [← HPp.out, Hq0.out, Hq1.out, Hq2.out])
            have HO : Hid (∀ u ∈ [Value.int .i64 (q0 : Int), .int .i64 q1, .int .i64 q2], u.oneCell' = true) := Lib.hid (fun u hu => by simp only [List.mem_cons, List.not_mem_nil, or_false] at hu; rcases hu with rfl | rfl | rfl <;> rfl)
            have hbw := hb
            have hk9 : k ≤ 100000 := by have := HPp.out; omega
            obtain ⟨_, _, _, c3⟩ := bg.d4
            have hw1a : (p : Int) + 1 < (ns.length : Int) := by omega
            have hw1b : (p : Int) + 2 < (ns.length : Int) := by omega
            have hw1c : (p : Int) < (ns.length : Int) := by omega
            have hw2a : ((p : Int) + 1).toNat = p + 1 := by omega
            have hw2b : ((p : Int) + 2).toNat = p + 2 := by omega
            have hw3a : (0 : Int) ≤ (p : Int) + 1 := by omega
            have hw3b : (0 : Int) ≤ (p : Int) + 2 := by omega
            have hw4a : IntKind.i64.wrap ((p : Int) + 1) = (p : Int) + 1 := IntWalk.i64_in _ (by omega)
            have hw4b : IntKind.i64.wrap ((p : Int) + 2) = (p : Int) + 2 := IntWalk.i64_in _ (by omega)
            go_wp2_with fail
            refine wp_region_plan (.t 0 (.t 2 (.t 3 (.t 4 (.t 5 (.t 6 (.t 7 (.t 8 (.t 9 (.t 10 (.t 11 (.t 12 (.t 13 (.t 14 (.t 15 (.t 16 (.b 1 (.c 17 (.c 18 (.t 19 (.c 20 .e)))) 17 (.c 1 (.c 18 (.t 19 (.c 20 .e))))))))))))))))))))) (fun w' => w'.cell? ⟨b, off + p, none⟩ = some (.int .i64 q0) ∧ w'.cell? ⟨b, off + (p + 1), none⟩ = some (.int .i64 q1) ∧ w'.cell? ⟨b, off + (p + 2), none⟩ = some (.int .i64 q2)) (by kernel_rfl) (by kernel_rfl) rfl (by kernel_rfl) (fun _ _ d _ _ h => by cases d <;> exact h) (by exact ⟨(hnx.drew.cell (p := ⟨b, off + p, none⟩) hbw).trans m0, (hnx.drew.cell (p := ⟨b, off + (p + 1), none⟩) hbw).trans m1, (hnx.drew.cell (p := ⟨b, off + (p + 2), none⟩) hbw).trans m2⟩) ?_
            simp only [psOf, List.getD_cons_zero, List.getD_cons_succ]
            repeat (first | (refine HP.take (v := ?_) (by rfl) ?_ ?_; rotate_left; (· (intro w hSw; (try dsimp only at hSw); go_simp; try with_reducible rfl)); (try simp only [Act.put, List.setIfInBounds_toArray, List.set_cons_zero, List.set_cons_succ])) | (refine HP.skip (by rfl) ?_; (try simp only [Act.put, List.setIfInBounds_toArray, List.set_cons_zero, List.set_cons_succ])))
            refine HP.both ?_ ?_
            · have hx1 := hnx.drew.alloc (.cells #[.int .i64 q0, .int .i64 q1, .int .i64 q2] 202)
              have hw1 := (owns_nx3 hw (Nx.refl wr).drew).alloc (.cells #[.int .i64 q0, .int .i64 q1, .int .i64 q2] 202)
              have bz := (bg.nx (Nx.refl wr).drew).alloc (.cells #[.int .i64 q0, .int .i64 q1, .int .i64 q2] 202)
              have HNW := Lib.hid (news3 wr.drew 202 (.int .i64 q0) (.int .i64 q1) (.int .i64 q2))
              have hlt := bg.lt
              refine CallStep.mk (by rfl) (fun K hK => ?_)
              go_simp
              refine hK.out _ _ (by exact ⟨(hnx.drew.cell (p := ⟨b, off + p, none⟩) hbw).trans m0, (hnx.drew.cell (p := ⟨b, off + (p + 1), none⟩) hbw).trans m1, (hnx.drew.cell (p := ⟨b, off + (p + 2), none⟩) hbw).trans m2⟩) ?_
              clear hK K
              try simp only [Act.put, List.setIfInBounds_toArray, List.set_cons_zero, List.set_cons_succ]
              refine HP.call ?_
              refine CallStep.mk (by rfl) (fun K hK => ?_)
              go_simp
              refine hK.out _ _ (by exact ⟨(hx1.cell (p := ⟨b, off + p, none⟩) hbw).trans m0, (hx1.cell (p := ⟨b, off + (p + 1), none⟩) hbw).trans m1, (hx1.cell (p := ⟨b, off + (p + 2), none⟩) hbw).trans m2⟩) ?_
              clear hK K
              try simp only [Act.put, List.setIfInBounds_toArray, List.set_cons_zero, List.set_cons_succ]
              change HP _ _ _ _ _ _ (wr.drew.alloc (.cells #[.int .i64 q0, .int .i64 q1, .int .i64 q2] 202))
              generalize wr.drew.alloc (.cells #[.int .i64 q0, .int .i64 q1, .int .i64 q2] 202) = wz at *
              refine HP.call ?_
              refine CallStep.mk (by rfl) (fun K hK => ?_)
              refine wp_append_own wz _ _ 128 rfl w1.heap.size 202 i0 _ 3 24 Tryz.underlying128 hi0 hz0 hz1 hz2 rfl (by omega) v k _ rfl hw1 ⟨wr.heap.size, 0, none⟩ 1 1 [.int .i64 q0, .int .i64 q1, .int .i64 q2] rfl rfl HNW.out HO.out (by unfold maxLen; omega) (by omega) hx1.size ?_
              intro v2 w2 hw2 hg2 _
              obtain ⟨g2, cp2, rfl, _, _⟩ := hw2.form (by omega)
              have hx2 : Nx w1 w2 := Below.grown hx1 hg2 hx1.size (fun k hk => (hw1.lt k hk).1)
              have bg2 : Box w2 w1.heap.size 130 #[.int .i64 n0, .int .i64 n1, .int .i64 n2, v] := bz.grown hg2 (owns_ne hw1 bz)
              refine hK.out _ _ (by exact ⟨(hx2.cell (p := ⟨b, off + p, none⟩) hbw).trans m0, (hx2.cell (p := ⟨b, off + (p + 1), none⟩) hbw).trans m1, (hx2.cell (p := ⟨b, off + (p + 2), none⟩) hbw).trans m2⟩) ?_
              clear hK K
              try simp only [Act.put, List.setIfInBounds_toArray, List.set_cons_zero, List.set_cons_succ]
              repeat (first | (refine HP.take (v := ?_) (by rfl) ?_ ?_; rotate_left; (· (intro w hSw; (try dsimp only at hSw); go_simp; try with_reducible rfl)); (try simp only [Act.put, List.setIfInBounds_toArray, List.set_cons_zero, List.set_cons_succ])) | (refine HP.skip (by rfl) ?_; (try simp only [Act.put, List.setIfInBounds_toArray, List.set_cons_zero, List.set_cons_succ])))
              obtain ⟨_, _, _, d3⟩ := bg2.d4
              have f3 := bg2.frozen 3
              refine HP.call ?_
              refine CallStep.mk (by rfl) (fun K hK => ?_)
              go_simp
              have hx3 := hx2.setCell (p := ⟨w1.heap.size, 3, none⟩) hgG (.slice (some ⟨g2, 0, none⟩) (k + 1) cp2)
              refine hK.out _ _ (by exact ⟨(hx3.cell (p := ⟨b, off + p, none⟩) hbw).trans m0, (hx3.cell (p := ⟨b, off + (p + 1), none⟩) hbw).trans m1, (hx3.cell (p := ⟨b, off + (p + 2), none⟩) hbw).trans m2⟩) ?_
              clear hK K
              try simp only [Act.put, List.setIfInBounds_toArray, List.set_cons_zero, List.set_cons_succ]
              refine HP.done ?_
              clear hw1a hw1b hw1c hw2a hw2b hw3a hw3b hw4a hw4b
              have bg3 := bg2.set 3 (.slice (some ⟨g2, 0, none⟩) (k + 1) cp2)
              have hw3 := owns_far (u := (.slice (some ⟨g2, 0, none⟩) (k + 1) cp2)) (i := 3) hw2 bg2
              clear d3 f3 c3
              go_wp2
              go_roundw
              case rel =>
                refine ⟨k + 1, p + 3, _, by omega, Lib.hid (by have := HPp.out; omega), by go_num, bg3, ?_, hx3⟩
                rw [chsV_succ, HQ.out]; exact hw3
              case measure => simp [intOf]; omega
            · have hx1 := hnx.drew.alloc (.cells #[.int .i64 q0, .int .i64 q1, .int .i64 q2] 202)
              have hw1 := (owns_nx3 hw (Nx.refl wr).drew).alloc (.cells #[.int .i64 q0, .int .i64 q1, .int .i64 q2] 202)
              have bz := (bg.nx (Nx.refl wr).drew).alloc (.cells #[.int .i64 q0, .int .i64 q1, .int .i64 q2] 202)
              have HNW := Lib.hid (news3 wr.drew 202 (.int .i64 q0) (.int .i64 q1) (.int .i64 q2))
              have hlt := bg.lt
              refine CallStep.mk (by rfl) (fun K hK => ?_)
              go_simp
              refine hK.out _ _ (by exact ⟨(hx1.cell (p := ⟨b, off + p, none⟩) hbw).trans m0, (hx1.cell (p := ⟨b, off + (p + 1), none⟩) hbw).trans m1, (hx1.cell (p := ⟨b, off + (p + 2), none⟩) hbw).trans m2⟩) ?_
              clear hK K
              try simp only [Act.put, List.setIfInBounds_toArray, List.set_cons_zero, List.set_cons_succ]
              refine HP.call ?_
              refine CallStep.mk (by rfl) (fun K hK => ?_)
              go_simp
              refine hK.out _ _ (by exact ⟨(hx1.cell (p := ⟨b, off + p, none⟩) hbw).trans m0, (hx1.cell (p := ⟨b, off + (p + 1), none⟩) hbw).trans m1, (hx1.cell (p := ⟨b, off + (p + 2), none⟩) hbw).trans m2⟩) ?_
              clear hK K
              try simp only [Act.put, List.setIfInBounds_toArray, List.set_cons_zero, List.set_cons_succ]
              change HP _ _ _ _ _ _ (wr.drew.alloc (.cells #[.int .i64 q0, .int .i64 q1, .int .i64 q2] 202))
              generalize wr.drew.alloc (.cells #[.int .i64 q0, .int .i64 q1, .int .i64 q2] 202) = wz at *
              refine HP.call ?_
              refine CallStep.mk (by rfl) (fun K hK => ?_)
              refine wp_append_own wz _ _ 128 rfl w1.heap.size 202 i0 _ 3 24 Tryz.underlying128 hi0 hz0 hz1 hz2 rfl (by omega) v k _ rfl hw1 ⟨wr.heap.size, 0, none⟩ 1 1 [.int .i64 q0, .int .i64 q1, .int .i64 q2] rfl rfl HNW.out HO.out (by unfold maxLen; omega) (by omega) hx1.size ?_
              intro v2 w2 hw2 hg2 _
              obtain ⟨g2, cp2, rfl, _, _⟩ := hw2.form (by omega)
              have hx2 : Nx w1 w2 := Below.grown hx1 hg2 hx1.size (fun k hk => (hw1.lt k hk).1)
              have bg2 : Box w2 w1.heap.size 130 #[.int .i64 n0, .int .i64 n1, .int .i64 n2, v] := bz.grown hg2 (owns_ne hw1 bz)
              refine hK.out _ _ (by exact ⟨(hx2.cell (p := ⟨b, off + p, none⟩) hbw).trans m0, (hx2.cell (p := ⟨b, off + (p + 1), none⟩) hbw).trans m1, (hx2.cell (p := ⟨b, off + (p + 2), none⟩) hbw).trans m2⟩) ?_
              clear hK K
              try simp only [Act.put, List.setIfInBounds_toArray, List.set_cons_zero, List.set_cons_succ]
              repeat (first | (refine HP.take (v := ?_) (by rfl) ?_ ?_; rotate_left; (· (intro w hSw; (try dsimp only at hSw); go_simp; try with_reducible rfl)); (try simp only [Act.put, List.setIfInBounds_toArray, List.set_cons_zero, List.set_cons_succ])) | (refine HP.skip (by rfl) ?_; (try simp only [Act.put, List.setIfInBounds_toArray, List.set_cons_zero, List.set_cons_succ])))
              obtain ⟨_, _, _, d3⟩ := bg2.d4
              have f3 := bg2.frozen 3
              refine HP.call ?_
              refine CallStep.mk (by rfl) (fun K hK => ?_)
              go_simp
              have hx3 := hx2.setCell (p := ⟨w1.heap.size, 3, none⟩) hgG (.slice (some ⟨g2, 0, none⟩) (k + 1) cp2)
              refine hK.out _ _ (by exact ⟨(hx3.cell (p := ⟨b, off + p, none⟩) hbw).trans m0, (hx3.cell (p := ⟨b, off + (p + 1), none⟩) hbw).trans m1, (hx3.cell (p := ⟨b, off + (p + 2), none⟩) hbw).trans m2⟩) ?_
              clear hK K
              try simp only [Act.put, List.setIfInBounds_toArray, List.set_cons_zero, List.set_cons_succ]
              refine HP.done ?_
              clear hw1a hw1b hw1c hw2a hw2b hw3a hw3b hw4a hw4b
              have bg3 := bg2.set 3 (.slice (some ⟨g2, 0, none⟩) (k + 1) cp2)
              have hw3 := owns_far (u := (.slice (some ⟨g2, 0, none⟩) (k + 1) cp2)) (i := 3) hw2 bg2
              clear d3 f3 c3
              go_wp2
              go_roundw
              case rel =>
                refine ⟨k + 1, p + 3, _, by omega, Lib.hid (by have := HPp.out; omega), by go_num, bg3, ?_, hx3⟩
                rw [chsV_succ, HQ.out]; exact hw3
              case measure => simp [intOf]; omega
          · obtain rfl : p = ns.length := by omega
            have hkN : k = ns.length / 3 - 1 := by have := HPp.out; omega
            have hlen := chOf_len ns k
            have hw' : wr.ownsRow w1.heap.size 202 3 v (chOf ns k).length (chsV (chOf ns k)) := by rw [hlen]; exact hw
            obtain ⟨A2, cp9, rfl, hSl⟩ := owns_slC hw'
            have HQ4 := Lib.hid (show sgOf ns = (n0, n1, n2, chOf ns k) by unfold sgOf; rw [Hn0.out, Hn1.out, Hn2.out, ← hkN])
            have hcl9 : (chOf ns k).length ≤ 1048576 := by rw [hlen]; have := HNL.out; omega
            have bw := b1.nx hnx
            have hxr := hxw.trans hnx
            have hgl : w.heap.size < w1.heap.size := b1.lt
            clear hw hw' hlen hkN
            obtain ⟨x0, x1, x2, x3⟩ := bg.d4
            go_wp2_with fail
            refine (specSegOK_c n0 n1 n2 A2 cp9 _ (chOf ns k) _ hSl.row (Nat.le_refl _) hcl9).mono ?_
            rintro e w5 ⟨rfl, hnx5⟩
            have b5 := bw.nx hnx5
            have bg5 := bg.nx hnx5
            have hx5 := hxr.trans hnx5
            have hS5 := hSl.nx hnx5
            clear x0 x1 x2 x3
            obtain ⟨x0, x1, x2, x3⟩ := bg5.d4
            cases hf : segB n0 n1 n2 (chOf ns k) with
            | false =>
              have HF := Lib.hid (rdG_no HN.out (by unfold g4B; rw [HQ4.out]; exact hf))
              clear hf
              obtain ⟨c0, c1, c2, c3⟩ := b5.d4
              have f0 := b5.frozen 0
              have f1 := b5.frozen 1
              have f2 := b5.frozen 2
              have f3 := b5.frozen 3
              go_wp2
              have q := (put4_box b5 (.int .i64 0) (.int .i64 0) (.int .i64 0) (.slice none 0 0))
              have hnf := (put4_nx hx5 (Nat.le_refl w.heap.size) (.int .i64 0) (.int .i64 0) (.int .i64 0) (.slice none 0 0))
              change bodyPost _ _ _ _ _ (put4 w5 w.heap.size (.int .i64 0) (.int .i64 0) (.int .i64 0) (.slice none 0 0))
              change Box (put4 w5 w.heap.size (.int .i64 0) (.int .i64 0) (.int .i64 0) (.slice none 0 0)) _ _ _ at q
              generalize put4 w5 w.heap.size (.int .i64 0) (.int .i64 0) (.int .i64 0) (.slice none 0 0) = Wf at *
              obtain ⟨g0, g1, g2, g3⟩ := q.d4
              exact bodyPost_ret (v := .tuple #[.agg #[.int .i64 0, .int .i64 0, .int .i64 0, .slice none 0 0], .bool false]) (by simp [results, Tryz.results125, go_sem, g0, g1, g2, g3]) rfl (RetST.no HF.out hnf)
              | true =>
              have HF := Lib.hid (rdG_yes HN.out HOL.out (by unfold g4B; rw [HQ4.out]; exact hf))
              clear hf
              obtain ⟨c0, c1, c2, c3⟩ := b5.d4
              have f0 := b5.frozen 0
              have f1 := b5.frozen 1
              have f2 := b5.frozen 2
              have f3 := b5.frozen 3
              go_wp2
              have q := (put4_box b5 (.int .i64 n0) (.int .i64 n1) (.int .i64 n2) (.slice A2 (chOf ns k).length cp9))
              have hnf := (put4_nx hx5 (Nat.le_refl w.heap.size) (.int .i64 n0) (.int .i64 n1) (.int .i64 n2) (.slice A2 (chOf ns k).length cp9))
              have hsf := (hS5.put4 hgl (.int .i64 n0) (.int .i64 n1) (.int .i64 n2) (.slice A2 (chOf ns k).length cp9))
              change Sl (put4 w5 w.heap.size (.int .i64 n0) (.int .i64 n1) (.int .i64 n2) (.slice A2 (chOf ns k).length cp9)) _ _ _ _ _ at hsf
              change bodyPost _ _ _ _ _ (put4 w5 w.heap.size (.int .i64 n0) (.int .i64 n1) (.int .i64 n2) (.slice A2 (chOf ns k).length cp9))
              change Box (put4 w5 w.heap.size (.int .i64 n0) (.int .i64 n1) (.int .i64 n2) (.slice A2 (chOf ns k).length cp9)) _ _ _ at q
              generalize put4 w5 w.heap.size (.int .i64 n0) (.int .i64 n1) (.int .i64 n2) (.slice A2 (chOf ns k).length cp9) = Wf at *
              obtain ⟨g0, g1, g2, g3⟩ := q.d4
              exact bodyPost_ret (v := .tuple #[.agg #[.int .i64 n0, .int .i64 n1, .int .i64 n2, .slice A2 (chOf ns k).length cp9], .bool true]) (by simp [results, Tryz.results125, go_sem, g0, g1, g2, g3]) rfl (RetST.yes HF.out HQ4.out (hsf.low (by omega)) hnf)


end Go.Proofs.YtehahodomfbpjaaGreatDoor
