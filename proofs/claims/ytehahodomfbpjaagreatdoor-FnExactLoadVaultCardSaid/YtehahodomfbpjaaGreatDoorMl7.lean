/-
  Texts of the proof, put together in their order: Rds.
  Conditions: those of each.
-/
import Derived.Test.YtehahodomfbpjaaGreatDoorMl6
/- Contract of the model's l04Read. Conditions: texts of at most 65536 bytes. -/
namespace Go.Proofs.YtehahodomfbpjaaGreatDoor
set_option linter.unusedVariables false
set_option maxRecDepth 100000
open Go.RowKit

theorem Below.cell_far (g g2 : Nat) (w : World) (v : Value) (h : g ≠ g2) {i j : Nat} : (w.setCell ⟨g2, j, none⟩ v).cell? ⟨g, i, none⟩ = w.cell? ⟨g, i, none⟩ := by
  have := Below.heap_setCell w ⟨g2, j, none⟩ v g h
  simp only [World.cell?, this]
theorem Sl.box0 {w : World} {lo m : Nat} {A : Option Addr} {t : TypeId} {f : Nat → Value} (h : Sl w lo A t m f) (hm : 0 < m) : ∃ g, A = some ⟨g, 0, none⟩ ∧ lo ≤ g ∧ g < w.heap.size ∧ (∃ cs, Box w g t cs) ∧ ∀ i, i < m → w.cell? ⟨g, i, none⟩ = some (f i) := by
  obtain ⟨g, e, hl, ho⟩ := h hm
  obtain ⟨cs, hc, r⟩ := id ho
  exact ⟨g, e, hl, ho.lt, ⟨cs, hc⟩, fun i hi => ho.cell hi⟩
theorem Box.ne_ty {w : World} {g g' : Nat} {t t' : TypeId} {cs cs' : Array Value} (h : Box w g t cs) (h' : Box w g' t' cs') (ht : t ≠ t') : g ≠ g' := by
  rintro rfl
  unfold Box at h h'
  rw [h] at h'
  injection h' with h'
  injection h' with _ h'
  exact ht h'
theorem getD_two {a b x : ByteArray} {l : List ByteArray} (h : l = [a, b]) : l.getD 0 x = a ∧ l.getD 1 x = b := by subst h; exact ⟨rfl, rfl⟩
theorem cutB_two {c : UInt8} {t : ByteArray} {a b : List UInt8} (h : cutL c t.data.toList = [a, b]) : cutB c t = [baL a, baL b] := by unfold cutB; rw [h]; rfl
theorem wordB_two {x : ByteArray} {a b : List UInt8} (h : cutL 61 x.data.toList = [a, b]) : wordB x = if plainB b then some (baL a, ((valL b : Nat) : Int)) else none := wordM_two h
theorem wordB_more {x : ByteArray} (h : (cutB 61 x).length ≠ 2) : wordB x = none := wordM_more (by rw [← cutB_len]; exact h)
theorem cutL_of2 {c : UInt8} {s : List UInt8} (h : (cutL c s).length = 2) : ∃ a b, cutL c s = [a, b] := by
  obtain ⟨a, b, h1, _⟩ := cutL_two h
  exact ⟨a, b, h1⟩
theorem cutL_parts {c : UInt8} {s a b : List UInt8} (h : cutL c s = [a, b]) : a.length ≤ s.length ∧ b.length ≤ s.length := ⟨cutL_part (by rw [h]; simp), cutL_part (by rw [h]; simp)⟩

set_option maxHeartbeats 1600000 in
theorem l04Read_c (t : ByteArray) (w : World) (ht : t.size ≤ 65536) : Calls Tryz.prog 205 #[.string t] w (RetSU w (rdU t) (.bool false) (.bool true)) := by
  have b0 := Box.new w 30 #[.int .i64 0, .int .i64 0, .int .i64 0, .int .i64 0, .slice none 0 0, .slice none 0 0]
  have hx0 := (Nx.refl w).alloc (.cells #[.int .i64 0, .int .i64 0, .int .i64 0, .int .i64 0, .slice none 0 0, .slice none 0 0] 30)
  go_enter Tryz.func205, Tryz.ntmps205
  go_wp2_with fail
  generalize w.alloc (.cells #[.int .i64 0, .int .i64 0, .int .i64 0, .int .i64 0, .slice none 0 0, .slice none 0 0] 30) = W at *
  refine (l02Open_c t _ (by omega)).mono ?_
  rintro e w0 ⟨x, rfl, hxs, hxb, hnx0⟩
  go_wp2_with fail
  refine (l00Cut_c x 124 _ (by omega)).mono ?_
  rintro e w1 ⟨A6, c6, rfl, hP1, hnx1⟩
  have b1 := (b0.nx hnx0).nx hnx1
  have hx1 := (hx0.trans hnx0).trans hnx1
  clear b0 hx0 hnx0 hnx1
  cases ho : opensB t with
  | false =>
    have HF := Lib.hid (rdU_shut ho)
    clear ho hxb
    obtain ⟨u0, u1, u2, u3, u4, u5⟩ := b1.d6
    have f0 := b1.frozen 0
    have f1 := b1.frozen 1
    have f2 := b1.frozen 2
    have f3 := b1.frozen 3
    have f4 := b1.frozen 4
    have f5 := b1.frozen 5
    go_wp2
    have q := (put6_box b1 (.int .i64 0) (.int .i64 0) (.int .i64 0) (.int .i64 0) (.slice none 0 0) (.slice none 0 0))
    have hnf := (put6_nx hx1 (Nat.le_refl w.heap.size) (.int .i64 0) (.int .i64 0) (.int .i64 0) (.int .i64 0) (.slice none 0 0) (.slice none 0 0))
    change bodyPost _ _ _ _ _ (put6 w1 w.heap.size (.int .i64 0) (.int .i64 0) (.int .i64 0) (.int .i64 0) (.slice none 0 0) (.slice none 0 0))
    change Box (put6 w1 w.heap.size (.int .i64 0) (.int .i64 0) (.int .i64 0) (.int .i64 0) (.slice none 0 0) (.slice none 0 0)) _ _ _ at q
    generalize put6 w1 w.heap.size (.int .i64 0) (.int .i64 0) (.int .i64 0) (.int .i64 0) (.slice none 0 0) (.slice none 0 0) = Wf at *
    obtain ⟨g0, g1, g2, g3, g4, g5⟩ := q.d6
    exact bodyPost_ret (v := .tuple #[.agg #[.int .i64 0, .int .i64 0, .int .i64 0, .int .i64 0, .slice none 0 0, .slice none 0 0], .bool false]) (by simp [results, Tryz.results205, go_sem, g0, g1, g2, g3, g4, g5]) rfl (RetSU.no HF.out hnf)
  | true =>
    obtain rfl := hxb ho
    clear hxb
    have Hlc := Lib.hid (cutB_len 124 (bodyOf t))
    by_cases h2 : (cutB 124 (bodyOf t)).length = 2
    case neg =>
      have HF := Lib.hid (rdU_more (t := t) (by rw [← Hlc.out]; exact h2))
      have hd2 : (((cutB 124 (bodyOf t)).length : Int) != 2) = true := by rw [bne_iff_ne]; omega
      clear ho h2
      obtain ⟨u0, u1, u2, u3, u4, u5⟩ := b1.d6
      have f0 := b1.frozen 0
      have f1 := b1.frozen 1
      have f2 := b1.frozen 2
      have f3 := b1.frozen 3
      have f4 := b1.frozen 4
      have f5 := b1.frozen 5
      go_wp2
      have q := (put6_box b1 (.int .i64 0) (.int .i64 0) (.int .i64 0) (.int .i64 0) (.slice none 0 0) (.slice none 0 0))
      have hnf := (put6_nx hx1 (Nat.le_refl w.heap.size) (.int .i64 0) (.int .i64 0) (.int .i64 0) (.int .i64 0) (.slice none 0 0) (.slice none 0 0))
      change bodyPost _ _ _ _ _ (put6 w1 w.heap.size (.int .i64 0) (.int .i64 0) (.int .i64 0) (.int .i64 0) (.slice none 0 0) (.slice none 0 0))
      change Box (put6 w1 w.heap.size (.int .i64 0) (.int .i64 0) (.int .i64 0) (.int .i64 0) (.slice none 0 0) (.slice none 0 0)) _ _ _ at q
      generalize put6 w1 w.heap.size (.int .i64 0) (.int .i64 0) (.int .i64 0) (.int .i64 0) (.slice none 0 0) (.slice none 0 0) = Wf at *
      obtain ⟨g0, g1, g2, g3, g4, g5⟩ := q.d6
      exact bodyPost_ret (v := .tuple #[.agg #[.int .i64 0, .int .i64 0, .int .i64 0, .int .i64 0, .slice none 0 0, .slice none 0 0], .bool false]) (by simp [results, Tryz.results205, go_sem, g0, g1, g2, g3, g4, g5]) rfl (RetSU.no HF.out hnf)
    obtain ⟨la, lb, hlab⟩ := cutL_of2 (by rw [← Hlc.out]; exact h2)
    have HPu := Lib.hid (rdU_two ho hlab)
    have hlp := cutL_parts hlab
    have Hps := Lib.hid (cutB_two hlab)
    rw [← ba_size] at hlp
    have hbsz := bodyOf_size t
    have HLa : Hid (la.length ≤ 65536) := Lib.hid (by omega)
    have HLb : Hid (lb.length ≤ 65536) := Lib.hid (by omega)
    obtain ⟨ps, Hpq⟩ : ∃ x, Hid (cutB 124 (bodyOf t) = x) := ⟨_, rfl⟩
    rw [Hpq.out] at hP1 h2 Hps Hlc ⊢
    have hd2 : ((ps.length : Int) != 2) = false := by rw [bne_eq_false_iff_eq]; omega
    obtain ⟨gp, rfl, _, hgp, _, hcp0⟩ := hP1.box0 (by omega)
    obtain ⟨sa, Hsa⟩ : ∃ x, Hid (baL la = x) := ⟨_, rfl⟩
    obtain ⟨sb, Hsb⟩ : ∃ x, Hid (baL lb = x) := ⟨_, rfl⟩
    have Hda := Lib.hid (show sa.data.toList = la by rw [← Hsa.out]; rfl)
    have Hdb := Lib.hid (show sb.data.toList = lb by rw [← Hsb.out]; rfl)
    have hla : sa.size ≤ 65536 := by rw [← Hsa.out, baL_size]; exact HLa.out
    have hlb : sb.size ≤ 65536 := by rw [← Hsb.out, baL_size]; exact HLb.out
    have p0 : w1.cell? ⟨gp, 0, none⟩ = some (.string sa) := by have := hcp0 0 (by omega); unfold wdAt at this; rw [(getD_two Hps.out).1, Hsa.out] at this; exact this
    have p1 : w1.cell? ⟨gp, 1, none⟩ = some (.string sb) := by have := hcp0 1 (by omega); unfold wdAt at this; rw [(getD_two Hps.out).2, Hsb.out] at this; exact this
    have hp0' : (0 : Int) < (ps.length : Int) := by omega
    have hp1' : (1 : Int) < (ps.length : Int) := by omega
    have hpm0 : 0 < ps.length := by omega
    have hpm1 : 1 < ps.length := by omega
    clear h2 hlab hlp hcp0 hP1 ho hbsz hxs
    go_wp2_with fail
    refine (l02Numbers_c sa _ hla).mono ?_
    rintro e w4 ⟨A, n, c, rfl, hr, hnx4⟩
    rw [Hda.out] at hr ⊢
    have b4 := b1.nx hnx4
    have hx4 := hx1.trans hnx4
    have hgp4 : gp < w4.heap.size := Nat.lt_of_lt_of_le hgp hnx4.size
    have p14 := (hnx4.cell (p := ⟨gp, 1, none⟩) hgp).trans p1
    clear p0 p1 b1 hx1 hnx4
    cases hn : numsO la with
    | none =>
      have HF := Lib.hid (HPu.out.trans (partU_nums hn))
      clear hr hn
      simp only [Option.isSome_none]
      obtain ⟨u0, u1, u2, u3, u4, u5⟩ := b4.d6
      have f0 := b4.frozen 0
      have f1 := b4.frozen 1
      have f2 := b4.frozen 2
      have f3 := b4.frozen 3
      have f4 := b4.frozen 4
      have f5 := b4.frozen 5
      go_wp2
      have q := (put6_box b4 (.int .i64 0) (.int .i64 0) (.int .i64 0) (.int .i64 0) (.slice none 0 0) (.slice none 0 0))
      have hnf := (put6_nx hx4 (Nat.le_refl w.heap.size) (.int .i64 0) (.int .i64 0) (.int .i64 0) (.int .i64 0) (.slice none 0 0) (.slice none 0 0))
      change bodyPost _ _ _ _ _ (put6 w4 w.heap.size (.int .i64 0) (.int .i64 0) (.int .i64 0) (.int .i64 0) (.slice none 0 0) (.slice none 0 0))
      change Box (put6 w4 w.heap.size (.int .i64 0) (.int .i64 0) (.int .i64 0) (.int .i64 0) (.slice none 0 0) (.slice none 0 0)) _ _ _ at q
      generalize put6 w4 w.heap.size (.int .i64 0) (.int .i64 0) (.int .i64 0) (.int .i64 0) (.slice none 0 0) (.slice none 0 0) = Wf at *
      obtain ⟨g0, g1, g2, g3, g4, g5⟩ := q.d6
      exact bodyPost_ret (v := .tuple #[.agg #[.int .i64 0, .int .i64 0, .int .i64 0, .int .i64 0, .slice none 0 0, .slice none 0 0], .bool false]) (by simp [results, Tryz.results205, go_sem, g0, g1, g2, g3, g4, g5]) rfl (RetSU.no HF.out hnf)
    | some ns =>
      obtain ⟨rfl, hrow, hcp⟩ := hr ns hn
      have HNs := Lib.hid hn
      have hnl : ns.length ≤ 65536 := by have := numsO_fit hn; have := HLa.out; omega
      clear hr hn
      simp only [Option.isSome_some]
      by_cases hl4 : 4 ≤ ns.length
      case neg =>
        have HF := Lib.hid (HPu.out.trans (partU_few HNs.out (by omega)))
        have hd4 : decide ((ns.length : Int) < 4) = true := by simp; omega
        obtain ⟨u0, u1, u2, u3, u4, u5⟩ := b4.d6
        have f0 := b4.frozen 0
        have f1 := b4.frozen 1
        have f2 := b4.frozen 2
        have f3 := b4.frozen 3
        have f4 := b4.frozen 4
        have f5 := b4.frozen 5
        go_wp2
        have q := (put6_box b4 (.int .i64 0) (.int .i64 0) (.int .i64 0) (.int .i64 0) (.slice none 0 0) (.slice none 0 0))
        have hnf := (put6_nx hx4 (Nat.le_refl w.heap.size) (.int .i64 0) (.int .i64 0) (.int .i64 0) (.int .i64 0) (.slice none 0 0) (.slice none 0 0))
        change bodyPost _ _ _ _ _ (put6 w4 w.heap.size (.int .i64 0) (.int .i64 0) (.int .i64 0) (.int .i64 0) (.slice none 0 0) (.slice none 0 0))
        change Box (put6 w4 w.heap.size (.int .i64 0) (.int .i64 0) (.int .i64 0) (.int .i64 0) (.slice none 0 0) (.slice none 0 0)) _ _ _ at q
        generalize put6 w4 w.heap.size (.int .i64 0) (.int .i64 0) (.int .i64 0) (.int .i64 0) (.slice none 0 0) (.slice none 0 0) = Wf at *
        obtain ⟨g0, g1, g2, g3, g4, g5⟩ := q.d6
        exact bodyPost_ret (v := .tuple #[.agg #[.int .i64 0, .int .i64 0, .int .i64 0, .int .i64 0, .slice none 0 0, .slice none 0 0], .bool false]) (by simp [results, Tryz.results205, go_sem, g0, g1, g2, g3, g4, g5]) rfl (RetSU.no HF.out hnf)
      have hd4 : decide ((ns.length : Int) < 4) = false := by simp; omega
      obtain ⟨b, off, rfl, hb, hcl⟩ := hrow (by omega)
      have HRow := Lib.hid (fun W (hW : Nx w4 W) => drop_row (W := W) (B := w4.heap.size) (c := c) (fun i hi => (hW.cell (p := ⟨b, off + i, none⟩) hb).trans (hcl i hi)) hb hl4 hcp)
      obtain ⟨n0, Hn0⟩ : ∃ n, Hid (ns.getD 0 0 = n) := ⟨_, rfl⟩
      obtain ⟨n1, Hn1⟩ : ∃ n, Hid (ns.getD 1 0 = n) := ⟨_, rfl⟩
      obtain ⟨n2, Hn2⟩ : ∃ n, Hid (ns.getD 2 0 = n) := ⟨_, rfl⟩
      obtain ⟨n3, Hn3⟩ : ∃ n, Hid (ns.getD 3 0 = n) := ⟨_, rfl⟩
      have k0 : w4.cell? ⟨b, off, none⟩ = some (.int .i64 n0) := by have := hcl 0 (by omega); unfold intAt at this; rw [Hn0.out] at this; exact this
      have k1 : w4.cell? ⟨b, off + 1, none⟩ = some (.int .i64 n1) := by have := hcl 1 (by omega); unfold intAt at this; rw [Hn1.out] at this; exact this
      have k2 : w4.cell? ⟨b, off + 2, none⟩ = some (.int .i64 n2) := by have := hcl 2 (by omega); unfold intAt at this; rw [Hn2.out] at this; exact this
      have k3 : w4.cell? ⟨b, off + 3, none⟩ = some (.int .i64 n3) := by have := hcl 3 (by omega); unfold intAt at this; rw [Hn3.out] at this; exact this
      obtain ⟨xs, Hxs⟩ : ∃ xs, Hid (intsN (ns.drop 4) = xs) := ⟨_, rfl⟩
      have HLen : Hid (xs.length = ns.length - 4) := Lib.hid (by rw [← Hxs.out, intsN_len, List.length_drop])
      rw [Hxs.out] at HRow
      have hi0' : (0 : Int) < (ns.length : Int) := by omega
      have hi1' : (1 : Int) < (ns.length : Int) := by omega
      have hi2' : (2 : Int) < (ns.length : Int) := by omega
      have hi3' : (3 : Int) < (ns.length : Int) := by omega
      have hm0 : 0 < ns.length := by omega
      have hm1 : 1 < ns.length := by omega
      have hm2 : 2 < ns.length := by omega
      have hm3 : 3 < ns.length := by omega
      clear hcl hrow
      go_wp2_with fail
      refine merge6 (F := (fun _ gS gm A5 c5 W => Box W gS 30 #[.int .i64 0, .int .i64 0, .int .i64 0, .int .i64 0, .slice none 0 0, .slice none 0 0] ∧ RowM W w4.heap.size (.slice (some ⟨gm, 0, none⟩) 0 0) [] ∧ RowI W w4.heap.size (.slice A5 xs.length c5) xs ∧ Nx w4 W ∧ w4.heap.size ≤ gS)) (G := ?_) (fun key => ?_) ?_
      rotate_left
      · have hd := (Nx.refl w4).drew
        refine wp_region_plan (.t 0 (.t 1 (.t 2 (.t 3 (.t 4 (.t 5 (.t 6 (.t 7 (.t 8 (.t 9 (.t 10 (.t 11 (.t 13 (.t 14 (.d 12 (.d 15 (.b 16 (.t 17 (.c 18 (.c 19 .e))) 18 (.c 16 (.t 17 (.c 19 .e)))) 16 (.b 15 (.t 17 (.c 18 (.c 19 .e))) 18 (.c 15 (.t 17 (.c 19 .e)))) 18 (.b 15 (.c 16 (.t 17 (.c 19 .e))) 16 (.c 15 (.t 17 (.c 19 .e))))) 16 (.b 12 (.b 15 (.t 17 (.c 18 (.c 19 .e))) 18 (.c 15 (.t 17 (.c 19 .e)))) 18 (.c 12 (.c 15 (.t 17 (.c 19 .e))))) 18 (.b 12 (.b 15 (.c 16 (.t 17 (.c 19 .e))) 16 (.c 15 (.t 17 (.c 19 .e)))) 16 (.c 12 (.c 15 (.t 17 (.c 19 .e)))))))))))))))))))) (fun w' => w'.cell? ⟨b, off, none⟩ = some (.int .i64 n0) ∧ w'.cell? ⟨b, off + 1, none⟩ = some (.int .i64 n1) ∧ w'.cell? ⟨b, off + 2, none⟩ = some (.int .i64 n2) ∧ w'.cell? ⟨b, off + 3, none⟩ = some (.int .i64 n3)) (by kernel_rfl) (by kernel_rfl) rfl (by kernel_rfl) (fun _ _ d _ _ h => by cases d <;> exact h) (by exact ⟨(hd.cell (p := ⟨b, off, none⟩) hb).trans k0, (hd.cell (p := ⟨b, off + 1, none⟩) hb).trans k1, (hd.cell (p := ⟨b, off + 2, none⟩) hb).trans k2, (hd.cell (p := ⟨b, off + 3, none⟩) hb).trans k3⟩) ?_
        simp only [psOf, List.getD_cons_zero, List.getD_cons_succ]
        change HP _ _ _ _ _ _ w4.drew
        generalize w4.drew = wd at hd ⊢
        iterate 13 (refine HP.take (v := ?_) (by rfl) ?_ ?_; rotate_left; (· (intro w hSw; (try dsimp only at hSw); go_simp; try with_reducible rfl)); (try simp only [Act.put, List.setIfInBounds_toArray, List.set_cons_zero, List.set_cons_succ]))
        refine HP.take (v := .slice (dropA (some ⟨b, off, none⟩) c) xs.length (c - 4)) (by rfl) (fun W _ => slice4 rfl rfl hl4 HLen.out) ?_
        try simp only [Act.put, List.setIfInBounds_toArray, List.set_cons_zero, List.set_cons_succ]
        refine HP.three ?_ ?_ ?_
        · have ri1 := RowI.new wd (B := w4.heap.size) hd.size
          have hv1 := hd.alloc (.cells #[] 3)
          refine CallStep.mk (by rfl) (fun K hK => ?_)
          go_simp
          refine hK.out _ _ (by exact ⟨(hv1.cell (p := ⟨b, off, none⟩) hb).trans k0, (hv1.cell (p := ⟨b, off + 1, none⟩) hb).trans k1, (hv1.cell (p := ⟨b, off + 2, none⟩) hb).trans k2, (hv1.cell (p := ⟨b, off + 3, none⟩) hb).trans k3⟩) ?_
          clear hK K
          try simp only [Act.put, List.setIfInBounds_toArray, List.set_cons_zero, List.set_cons_succ]
          change HP _ _ _ _ _ _ (wd.alloc (.cells #[] 3))
          generalize wd.alloc (.cells #[] 3) = v1 at *
          generalize wd.heap.size = gi at *
          refine HP.three ?_ ?_ ?_
          · refine CallStep.mk (by rfl) (fun K hK => ?_)
            refine wp_addAllJ _ _ rfl w4.heap.size gi (dropA (some ⟨b, off, none⟩) c) (c - 4) xs rfl rfl ri1 (HRow.out _ hv1) (by have := HLen.out; omega) hv1.size ?_
            intro A5 c5 v2 rI2 hG2
            intro _
            have hv2 := hG2.nx w4 hv1 (Nat.le_refl _)
            refine hK.out _ _ (by exact ⟨(hv2.cell (p := ⟨b, off, none⟩) hb).trans k0, (hv2.cell (p := ⟨b, off + 1, none⟩) hb).trans k1, (hv2.cell (p := ⟨b, off + 2, none⟩) hb).trans k2, (hv2.cell (p := ⟨b, off + 3, none⟩) hb).trans k3⟩) ?_
            clear hK K
            try simp only [Act.put, List.setIfInBounds_toArray, List.set_cons_zero, List.set_cons_succ]
            refine HP.both ?_ ?_
            · have rI3 := rI2.nx ((Nx.refl v2).alloc (.cells #[] 199))
              have rM3 := RowM.new v2 (B := w4.heap.size) hv2.size
              have hv3 := hv2.alloc (.cells #[] 199)
              refine CallStep.mk (by rfl) (fun K hK => ?_)
              go_simp
              refine hK.out _ _ (by exact ⟨(hv3.cell (p := ⟨b, off, none⟩) hb).trans k0, (hv3.cell (p := ⟨b, off + 1, none⟩) hb).trans k1, (hv3.cell (p := ⟨b, off + 2, none⟩) hb).trans k2, (hv3.cell (p := ⟨b, off + 3, none⟩) hb).trans k3⟩) ?_
              clear hK K
              try simp only [Act.put, List.setIfInBounds_toArray, List.set_cons_zero, List.set_cons_succ]
              change HP _ _ _ _ _ _ (v2.alloc (.cells #[] 199))
              generalize v2.alloc (.cells #[] 199) = v3 at *
              generalize v2.heap.size = gm at *
              repeat (first | (refine HP.take (v := ?_) (by rfl) ?_ ?_; rotate_left; (· (intro w hSw; (try dsimp only at hSw); go_simp; try with_reducible rfl)); (try simp only [Act.put, List.setIfInBounds_toArray, List.set_cons_zero, List.set_cons_succ])) | (refine HP.skip (by rfl) ?_; (try simp only [Act.put, List.setIfInBounds_toArray, List.set_cons_zero, List.set_cons_succ])))
              refine HP.call ?_
              have rI4 := rI3.nx ((Nx.refl v3).alloc (.cells #[.int .i64 0, .int .i64 0, .int .i64 0, .int .i64 0, .slice none 0 0, .slice none 0 0] 30))
              have rM4 := rM3.nx ((Nx.refl v3).alloc (.cells #[.int .i64 0, .int .i64 0, .int .i64 0, .int .i64 0, .slice none 0 0, .slice none 0 0] 30))
              have bS4 := Box.new v3 30 #[.int .i64 0, .int .i64 0, .int .i64 0, .int .i64 0, .slice none 0 0, .slice none 0 0]
              have hgS := hv3.size
              have hv4 := hv3.alloc (.cells #[.int .i64 0, .int .i64 0, .int .i64 0, .int .i64 0, .slice none 0 0, .slice none 0 0] 30)
              refine CallStep.mk (by rfl) (fun K hK => ?_)
              go_simp
              refine hK.out _ _ (by exact ⟨(hv4.cell (p := ⟨b, off, none⟩) hb).trans k0, (hv4.cell (p := ⟨b, off + 1, none⟩) hb).trans k1, (hv4.cell (p := ⟨b, off + 2, none⟩) hb).trans k2, (hv4.cell (p := ⟨b, off + 3, none⟩) hb).trans k3⟩) ?_
              clear hK K
              try simp only [Act.put, List.setIfInBounds_toArray, List.set_cons_zero, List.set_cons_succ]
              change HP _ _ _ _ _ _ (v3.alloc (.cells #[.int .i64 0, .int .i64 0, .int .i64 0, .int .i64 0, .slice none 0 0, .slice none 0 0] 30))
              generalize v3.alloc (.cells #[.int .i64 0, .int .i64 0, .int .i64 0, .int .i64 0, .slice none 0 0, .slice none 0 0] 30) = v4 at *
              generalize v3.heap.size = gS at *
              exact key gi gS gm A5 c5 v4 ⟨bS4, rM4, rI4, hv4, hgS⟩
            · have rI5 := rI2.nx ((Nx.refl v2).alloc (.cells #[.int .i64 0, .int .i64 0, .int .i64 0, .int .i64 0, .slice none 0 0, .slice none 0 0] 30))
              have bS5 := Box.new v2 30 #[.int .i64 0, .int .i64 0, .int .i64 0, .int .i64 0, .slice none 0 0, .slice none 0 0]
              have hgS := hv2.size
              have hv5 := hv2.alloc (.cells #[.int .i64 0, .int .i64 0, .int .i64 0, .int .i64 0, .slice none 0 0, .slice none 0 0] 30)
              refine CallStep.mk (by rfl) (fun K hK => ?_)
              go_simp
              refine hK.out _ _ (by exact ⟨(hv5.cell (p := ⟨b, off, none⟩) hb).trans k0, (hv5.cell (p := ⟨b, off + 1, none⟩) hb).trans k1, (hv5.cell (p := ⟨b, off + 2, none⟩) hb).trans k2, (hv5.cell (p := ⟨b, off + 3, none⟩) hb).trans k3⟩) ?_
              clear hK K
              try simp only [Act.put, List.setIfInBounds_toArray, List.set_cons_zero, List.set_cons_succ]
              change HP _ _ _ _ _ _ (v2.alloc (.cells #[.int .i64 0, .int .i64 0, .int .i64 0, .int .i64 0, .slice none 0 0, .slice none 0 0] 30))
              generalize v2.alloc (.cells #[.int .i64 0, .int .i64 0, .int .i64 0, .int .i64 0, .slice none 0 0, .slice none 0 0] 30) = v5 at *
              generalize v2.heap.size = gS at *
              refine HP.call ?_
              have rI6 := rI5.nx ((Nx.refl v5).alloc (.cells #[] 199))
              have bS6 := bS5.nx ((Nx.refl v5).alloc (.cells #[] 199))
              have rM6 := RowM.new v5 (B := w4.heap.size) hv5.size
              have hv6 := hv5.alloc (.cells #[] 199)
              refine CallStep.mk (by rfl) (fun K hK => ?_)
              go_simp
              refine hK.out _ _ (by exact ⟨(hv6.cell (p := ⟨b, off, none⟩) hb).trans k0, (hv6.cell (p := ⟨b, off + 1, none⟩) hb).trans k1, (hv6.cell (p := ⟨b, off + 2, none⟩) hb).trans k2, (hv6.cell (p := ⟨b, off + 3, none⟩) hb).trans k3⟩) ?_
              clear hK K
              try simp only [Act.put, List.setIfInBounds_toArray, List.set_cons_zero, List.set_cons_succ]
              change HP _ _ _ _ _ _ (v5.alloc (.cells #[] 199))
              generalize v5.alloc (.cells #[] 199) = v6 at *
              generalize v5.heap.size = gm at *
              repeat (first | (refine HP.take (v := ?_) (by rfl) ?_ ?_; rotate_left; (· (intro w hSw; (try dsimp only at hSw); go_simp; try with_reducible rfl)); (try simp only [Act.put, List.setIfInBounds_toArray, List.set_cons_zero, List.set_cons_succ])) | (refine HP.skip (by rfl) ?_; (try simp only [Act.put, List.setIfInBounds_toArray, List.set_cons_zero, List.set_cons_succ])))
              exact key gi gS gm A5 c5 v6 ⟨bS6, rM6, rI6, hv6, hgS⟩
          · have ri7 := ri1.nx ((Nx.refl v1).alloc (.cells #[] 199))
            have rM7 := RowM.new v1 (B := w4.heap.size) hv1.size
            have hv7 := hv1.alloc (.cells #[] 199)
            refine CallStep.mk (by rfl) (fun K hK => ?_)
            go_simp
            refine hK.out _ _ (by exact ⟨(hv7.cell (p := ⟨b, off, none⟩) hb).trans k0, (hv7.cell (p := ⟨b, off + 1, none⟩) hb).trans k1, (hv7.cell (p := ⟨b, off + 2, none⟩) hb).trans k2, (hv7.cell (p := ⟨b, off + 3, none⟩) hb).trans k3⟩) ?_
            clear hK K
            try simp only [Act.put, List.setIfInBounds_toArray, List.set_cons_zero, List.set_cons_succ]
            change HP _ _ _ _ _ _ (v1.alloc (.cells #[] 199))
            generalize v1.alloc (.cells #[] 199) = v7 at *
            generalize v1.heap.size = gm at *
            refine HP.both ?_ ?_
            · refine CallStep.mk (by rfl) (fun K hK => ?_)
              refine wp_addAllJ _ _ rfl w4.heap.size gi (dropA (some ⟨b, off, none⟩) c) (c - 4) xs rfl rfl ri7 (HRow.out _ hv7) (by have := HLen.out; omega) hv7.size ?_
              intro A5 c5 v8 rI8 hG8
              intro _
              have hv8 := hG8.nx w4 hv7 (Nat.le_refl _)
              have rM8 := rM7.grew hG8 (by decide)
              refine hK.out _ _ (by exact ⟨(hv8.cell (p := ⟨b, off, none⟩) hb).trans k0, (hv8.cell (p := ⟨b, off + 1, none⟩) hb).trans k1, (hv8.cell (p := ⟨b, off + 2, none⟩) hb).trans k2, (hv8.cell (p := ⟨b, off + 3, none⟩) hb).trans k3⟩) ?_
              clear hK K
              try simp only [Act.put, List.setIfInBounds_toArray, List.set_cons_zero, List.set_cons_succ]
              repeat (first | (refine HP.take (v := ?_) (by rfl) ?_ ?_; rotate_left; (· (intro w hSw; (try dsimp only at hSw); go_simp; try with_reducible rfl)); (try simp only [Act.put, List.setIfInBounds_toArray, List.set_cons_zero, List.set_cons_succ])) | (refine HP.skip (by rfl) ?_; (try simp only [Act.put, List.setIfInBounds_toArray, List.set_cons_zero, List.set_cons_succ])))
              refine HP.call ?_
              have rM9 := rM8.nx ((Nx.refl v8).alloc (.cells #[.int .i64 0, .int .i64 0, .int .i64 0, .int .i64 0, .slice none 0 0, .slice none 0 0] 30))
              have rI9 := rI8.nx ((Nx.refl v8).alloc (.cells #[.int .i64 0, .int .i64 0, .int .i64 0, .int .i64 0, .slice none 0 0, .slice none 0 0] 30))
              have bS9 := Box.new v8 30 #[.int .i64 0, .int .i64 0, .int .i64 0, .int .i64 0, .slice none 0 0, .slice none 0 0]
              have hgS := hv8.size
              have hv9 := hv8.alloc (.cells #[.int .i64 0, .int .i64 0, .int .i64 0, .int .i64 0, .slice none 0 0, .slice none 0 0] 30)
              refine CallStep.mk (by rfl) (fun K hK => ?_)
              go_simp
              refine hK.out _ _ (by exact ⟨(hv9.cell (p := ⟨b, off, none⟩) hb).trans k0, (hv9.cell (p := ⟨b, off + 1, none⟩) hb).trans k1, (hv9.cell (p := ⟨b, off + 2, none⟩) hb).trans k2, (hv9.cell (p := ⟨b, off + 3, none⟩) hb).trans k3⟩) ?_
              clear hK K
              try simp only [Act.put, List.setIfInBounds_toArray, List.set_cons_zero, List.set_cons_succ]
              change HP _ _ _ _ _ _ (v8.alloc (.cells #[.int .i64 0, .int .i64 0, .int .i64 0, .int .i64 0, .slice none 0 0, .slice none 0 0] 30))
              generalize v8.alloc (.cells #[.int .i64 0, .int .i64 0, .int .i64 0, .int .i64 0, .slice none 0 0, .slice none 0 0] 30) = v9 at *
              generalize v8.heap.size = gS at *
              exact key gi gS gm A5 c5 v9 ⟨bS9, rM9, rI9, hv9, hgS⟩
            · have ri10 := ri7.nx ((Nx.refl v7).alloc (.cells #[.int .i64 0, .int .i64 0, .int .i64 0, .int .i64 0, .slice none 0 0, .slice none 0 0] 30))
              have rM10 := rM7.nx ((Nx.refl v7).alloc (.cells #[.int .i64 0, .int .i64 0, .int .i64 0, .int .i64 0, .slice none 0 0, .slice none 0 0] 30))
              have bS10 := Box.new v7 30 #[.int .i64 0, .int .i64 0, .int .i64 0, .int .i64 0, .slice none 0 0, .slice none 0 0]
              have hgS := hv7.size
              have hv10 := hv7.alloc (.cells #[.int .i64 0, .int .i64 0, .int .i64 0, .int .i64 0, .slice none 0 0, .slice none 0 0] 30)
              refine CallStep.mk (by rfl) (fun K hK => ?_)
              go_simp
              refine hK.out _ _ (by exact ⟨(hv10.cell (p := ⟨b, off, none⟩) hb).trans k0, (hv10.cell (p := ⟨b, off + 1, none⟩) hb).trans k1, (hv10.cell (p := ⟨b, off + 2, none⟩) hb).trans k2, (hv10.cell (p := ⟨b, off + 3, none⟩) hb).trans k3⟩) ?_
              clear hK K
              try simp only [Act.put, List.setIfInBounds_toArray, List.set_cons_zero, List.set_cons_succ]
              change HP _ _ _ _ _ _ (v7.alloc (.cells #[.int .i64 0, .int .i64 0, .int .i64 0, .int .i64 0, .slice none 0 0, .slice none 0 0] 30))
              generalize v7.alloc (.cells #[.int .i64 0, .int .i64 0, .int .i64 0, .int .i64 0, .slice none 0 0, .slice none 0 0] 30) = v10 at *
              generalize v7.heap.size = gS at *
              refine HP.call ?_
              refine CallStep.mk (by rfl) (fun K hK => ?_)
              refine wp_addAllJ _ _ rfl w4.heap.size gi (dropA (some ⟨b, off, none⟩) c) (c - 4) xs rfl rfl ri10 (HRow.out _ hv10) (by have := HLen.out; omega) hv10.size ?_
              intro A5 c5 v11 rI11 hG11
              intro _
              have hv11 := hG11.nx w4 hv10 (Nat.le_refl _)
              have rM11 := rM10.grew hG11 (by decide)
              have bS11 := hG11.box _ _ _ (by decide) bS10
              refine hK.out _ _ (by exact ⟨(hv11.cell (p := ⟨b, off, none⟩) hb).trans k0, (hv11.cell (p := ⟨b, off + 1, none⟩) hb).trans k1, (hv11.cell (p := ⟨b, off + 2, none⟩) hb).trans k2, (hv11.cell (p := ⟨b, off + 3, none⟩) hb).trans k3⟩) ?_
              clear hK K
              try simp only [Act.put, List.setIfInBounds_toArray, List.set_cons_zero, List.set_cons_succ]
              repeat (first | (refine HP.take (v := ?_) (by rfl) ?_ ?_; rotate_left; (· (intro w hSw; (try dsimp only at hSw); go_simp; try with_reducible rfl)); (try simp only [Act.put, List.setIfInBounds_toArray, List.set_cons_zero, List.set_cons_succ])) | (refine HP.skip (by rfl) ?_; (try simp only [Act.put, List.setIfInBounds_toArray, List.set_cons_zero, List.set_cons_succ])))
              exact key gi gS gm A5 c5 v11 ⟨bS11, rM11, rI11, hv11, hgS⟩
          · have ri12 := ri1.nx ((Nx.refl v1).alloc (.cells #[.int .i64 0, .int .i64 0, .int .i64 0, .int .i64 0, .slice none 0 0, .slice none 0 0] 30))
            have bS12 := Box.new v1 30 #[.int .i64 0, .int .i64 0, .int .i64 0, .int .i64 0, .slice none 0 0, .slice none 0 0]
            have hgS := hv1.size
            have hv12 := hv1.alloc (.cells #[.int .i64 0, .int .i64 0, .int .i64 0, .int .i64 0, .slice none 0 0, .slice none 0 0] 30)
            refine CallStep.mk (by rfl) (fun K hK => ?_)
            go_simp
            refine hK.out _ _ (by exact ⟨(hv12.cell (p := ⟨b, off, none⟩) hb).trans k0, (hv12.cell (p := ⟨b, off + 1, none⟩) hb).trans k1, (hv12.cell (p := ⟨b, off + 2, none⟩) hb).trans k2, (hv12.cell (p := ⟨b, off + 3, none⟩) hb).trans k3⟩) ?_
            clear hK K
            try simp only [Act.put, List.setIfInBounds_toArray, List.set_cons_zero, List.set_cons_succ]
            change HP _ _ _ _ _ _ (v1.alloc (.cells #[.int .i64 0, .int .i64 0, .int .i64 0, .int .i64 0, .slice none 0 0, .slice none 0 0] 30))
            generalize v1.alloc (.cells #[.int .i64 0, .int .i64 0, .int .i64 0, .int .i64 0, .slice none 0 0, .slice none 0 0] 30) = v12 at *
            generalize v1.heap.size = gS at *
            refine HP.both ?_ ?_
            · refine CallStep.mk (by rfl) (fun K hK => ?_)
              refine wp_addAllJ _ _ rfl w4.heap.size gi (dropA (some ⟨b, off, none⟩) c) (c - 4) xs rfl rfl ri12 (HRow.out _ hv12) (by have := HLen.out; omega) hv12.size ?_
              intro A5 c5 v13 rI13 hG13
              intro _
              have hv13 := hG13.nx w4 hv12 (Nat.le_refl _)
              have bS13 := hG13.box _ _ _ (by decide) bS12
              refine hK.out _ _ (by exact ⟨(hv13.cell (p := ⟨b, off, none⟩) hb).trans k0, (hv13.cell (p := ⟨b, off + 1, none⟩) hb).trans k1, (hv13.cell (p := ⟨b, off + 2, none⟩) hb).trans k2, (hv13.cell (p := ⟨b, off + 3, none⟩) hb).trans k3⟩) ?_
              clear hK K
              try simp only [Act.put, List.setIfInBounds_toArray, List.set_cons_zero, List.set_cons_succ]
              refine HP.call ?_
              have bS14 := bS13.nx ((Nx.refl v13).alloc (.cells #[] 199))
              have rI14 := rI13.nx ((Nx.refl v13).alloc (.cells #[] 199))
              have rM14 := RowM.new v13 (B := w4.heap.size) hv13.size
              have hv14 := hv13.alloc (.cells #[] 199)
              refine CallStep.mk (by rfl) (fun K hK => ?_)
              go_simp
              refine hK.out _ _ (by exact ⟨(hv14.cell (p := ⟨b, off, none⟩) hb).trans k0, (hv14.cell (p := ⟨b, off + 1, none⟩) hb).trans k1, (hv14.cell (p := ⟨b, off + 2, none⟩) hb).trans k2, (hv14.cell (p := ⟨b, off + 3, none⟩) hb).trans k3⟩) ?_
              clear hK K
              try simp only [Act.put, List.setIfInBounds_toArray, List.set_cons_zero, List.set_cons_succ]
              change HP _ _ _ _ _ _ (v13.alloc (.cells #[] 199))
              generalize v13.alloc (.cells #[] 199) = v14 at *
              generalize v13.heap.size = gm at *
              repeat (first | (refine HP.take (v := ?_) (by rfl) ?_ ?_; rotate_left; (· (intro w hSw; (try dsimp only at hSw); go_simp; try with_reducible rfl)); (try simp only [Act.put, List.setIfInBounds_toArray, List.set_cons_zero, List.set_cons_succ])) | (refine HP.skip (by rfl) ?_; (try simp only [Act.put, List.setIfInBounds_toArray, List.set_cons_zero, List.set_cons_succ])))
              exact key gi gS gm A5 c5 v14 ⟨bS14, rM14, rI14, hv14, hgS⟩
            · have ri15 := ri12.nx ((Nx.refl v12).alloc (.cells #[] 199))
              have bS15 := bS12.nx ((Nx.refl v12).alloc (.cells #[] 199))
              have rM15 := RowM.new v12 (B := w4.heap.size) hv12.size
              have hv15 := hv12.alloc (.cells #[] 199)
              refine CallStep.mk (by rfl) (fun K hK => ?_)
              go_simp
              refine hK.out _ _ (by exact ⟨(hv15.cell (p := ⟨b, off, none⟩) hb).trans k0, (hv15.cell (p := ⟨b, off + 1, none⟩) hb).trans k1, (hv15.cell (p := ⟨b, off + 2, none⟩) hb).trans k2, (hv15.cell (p := ⟨b, off + 3, none⟩) hb).trans k3⟩) ?_
              clear hK K
              try simp only [Act.put, List.setIfInBounds_toArray, List.set_cons_zero, List.set_cons_succ]
              change HP _ _ _ _ _ _ (v12.alloc (.cells #[] 199))
              generalize v12.alloc (.cells #[] 199) = v15 at *
              generalize v12.heap.size = gm at *
              refine HP.call ?_
              refine CallStep.mk (by rfl) (fun K hK => ?_)
              refine wp_addAllJ _ _ rfl w4.heap.size gi (dropA (some ⟨b, off, none⟩) c) (c - 4) xs rfl rfl ri15 (HRow.out _ hv15) (by have := HLen.out; omega) hv15.size ?_
              intro A5 c5 v16 rI16 hG16
              intro _
              have hv16 := hG16.nx w4 hv15 (Nat.le_refl _)
              have bS16 := hG16.box _ _ _ (by decide) bS15
              have rM16 := rM15.grew hG16 (by decide)
              refine hK.out _ _ (by exact ⟨(hv16.cell (p := ⟨b, off, none⟩) hb).trans k0, (hv16.cell (p := ⟨b, off + 1, none⟩) hb).trans k1, (hv16.cell (p := ⟨b, off + 2, none⟩) hb).trans k2, (hv16.cell (p := ⟨b, off + 3, none⟩) hb).trans k3⟩) ?_
              clear hK K
              try simp only [Act.put, List.setIfInBounds_toArray, List.set_cons_zero, List.set_cons_succ]
              repeat (first | (refine HP.take (v := ?_) (by rfl) ?_ ?_; rotate_left; (· (intro w hSw; (try dsimp only at hSw); go_simp; try with_reducible rfl)); (try simp only [Act.put, List.setIfInBounds_toArray, List.set_cons_zero, List.set_cons_succ])) | (refine HP.skip (by rfl) ?_; (try simp only [Act.put, List.setIfInBounds_toArray, List.set_cons_zero, List.set_cons_succ])))
              exact key gi gS gm A5 c5 v16 ⟨bS16, rM16, rI16, hv16, hgS⟩
        · have rM17 := RowM.new wd (B := w4.heap.size) hd.size
          have hv17 := hd.alloc (.cells #[] 199)
          refine CallStep.mk (by rfl) (fun K hK => ?_)
          go_simp
          refine hK.out _ _ (by exact ⟨(hv17.cell (p := ⟨b, off, none⟩) hb).trans k0, (hv17.cell (p := ⟨b, off + 1, none⟩) hb).trans k1, (hv17.cell (p := ⟨b, off + 2, none⟩) hb).trans k2, (hv17.cell (p := ⟨b, off + 3, none⟩) hb).trans k3⟩) ?_
          clear hK K
          try simp only [Act.put, List.setIfInBounds_toArray, List.set_cons_zero, List.set_cons_succ]
          change HP _ _ _ _ _ _ (wd.alloc (.cells #[] 199))
          generalize wd.alloc (.cells #[] 199) = v17 at *
          generalize wd.heap.size = gm at *
          refine HP.both ?_ ?_
          · have rM18 := rM17.nx ((Nx.refl v17).alloc (.cells #[] 3))
            have ri18 := RowI.new v17 (B := w4.heap.size) hv17.size
            have hv18 := hv17.alloc (.cells #[] 3)
            refine CallStep.mk (by rfl) (fun K hK => ?_)
            go_simp
            refine hK.out _ _ (by exact ⟨(hv18.cell (p := ⟨b, off, none⟩) hb).trans k0, (hv18.cell (p := ⟨b, off + 1, none⟩) hb).trans k1, (hv18.cell (p := ⟨b, off + 2, none⟩) hb).trans k2, (hv18.cell (p := ⟨b, off + 3, none⟩) hb).trans k3⟩) ?_
            clear hK K
            try simp only [Act.put, List.setIfInBounds_toArray, List.set_cons_zero, List.set_cons_succ]
            change HP _ _ _ _ _ _ (v17.alloc (.cells #[] 3))
            generalize v17.alloc (.cells #[] 3) = v18 at *
            generalize v17.heap.size = gi at *
            refine HP.both ?_ ?_
            · refine CallStep.mk (by rfl) (fun K hK => ?_)
              refine wp_addAllJ _ _ rfl w4.heap.size gi (dropA (some ⟨b, off, none⟩) c) (c - 4) xs rfl rfl ri18 (HRow.out _ hv18) (by have := HLen.out; omega) hv18.size ?_
              intro A5 c5 v19 rI19 hG19
              intro _
              have hv19 := hG19.nx w4 hv18 (Nat.le_refl _)
              have rM19 := rM18.grew hG19 (by decide)
              refine hK.out _ _ (by exact ⟨(hv19.cell (p := ⟨b, off, none⟩) hb).trans k0, (hv19.cell (p := ⟨b, off + 1, none⟩) hb).trans k1, (hv19.cell (p := ⟨b, off + 2, none⟩) hb).trans k2, (hv19.cell (p := ⟨b, off + 3, none⟩) hb).trans k3⟩) ?_
              clear hK K
              try simp only [Act.put, List.setIfInBounds_toArray, List.set_cons_zero, List.set_cons_succ]
              repeat (first | (refine HP.take (v := ?_) (by rfl) ?_ ?_; rotate_left; (· (intro w hSw; (try dsimp only at hSw); go_simp; try with_reducible rfl)); (try simp only [Act.put, List.setIfInBounds_toArray, List.set_cons_zero, List.set_cons_succ])) | (refine HP.skip (by rfl) ?_; (try simp only [Act.put, List.setIfInBounds_toArray, List.set_cons_zero, List.set_cons_succ])))
              refine HP.call ?_
              have rM20 := rM19.nx ((Nx.refl v19).alloc (.cells #[.int .i64 0, .int .i64 0, .int .i64 0, .int .i64 0, .slice none 0 0, .slice none 0 0] 30))
              have rI20 := rI19.nx ((Nx.refl v19).alloc (.cells #[.int .i64 0, .int .i64 0, .int .i64 0, .int .i64 0, .slice none 0 0, .slice none 0 0] 30))
              have bS20 := Box.new v19 30 #[.int .i64 0, .int .i64 0, .int .i64 0, .int .i64 0, .slice none 0 0, .slice none 0 0]
              have hgS := hv19.size
              have hv20 := hv19.alloc (.cells #[.int .i64 0, .int .i64 0, .int .i64 0, .int .i64 0, .slice none 0 0, .slice none 0 0] 30)
              refine CallStep.mk (by rfl) (fun K hK => ?_)
              go_simp
              refine hK.out _ _ (by exact ⟨(hv20.cell (p := ⟨b, off, none⟩) hb).trans k0, (hv20.cell (p := ⟨b, off + 1, none⟩) hb).trans k1, (hv20.cell (p := ⟨b, off + 2, none⟩) hb).trans k2, (hv20.cell (p := ⟨b, off + 3, none⟩) hb).trans k3⟩) ?_
              clear hK K
              try simp only [Act.put, List.setIfInBounds_toArray, List.set_cons_zero, List.set_cons_succ]
              change HP _ _ _ _ _ _ (v19.alloc (.cells #[.int .i64 0, .int .i64 0, .int .i64 0, .int .i64 0, .slice none 0 0, .slice none 0 0] 30))
              generalize v19.alloc (.cells #[.int .i64 0, .int .i64 0, .int .i64 0, .int .i64 0, .slice none 0 0, .slice none 0 0] 30) = v20 at *
              generalize v19.heap.size = gS at *
              exact key gi gS gm A5 c5 v20 ⟨bS20, rM20, rI20, hv20, hgS⟩
            · have rM21 := rM18.nx ((Nx.refl v18).alloc (.cells #[.int .i64 0, .int .i64 0, .int .i64 0, .int .i64 0, .slice none 0 0, .slice none 0 0] 30))
              have ri21 := ri18.nx ((Nx.refl v18).alloc (.cells #[.int .i64 0, .int .i64 0, .int .i64 0, .int .i64 0, .slice none 0 0, .slice none 0 0] 30))
              have bS21 := Box.new v18 30 #[.int .i64 0, .int .i64 0, .int .i64 0, .int .i64 0, .slice none 0 0, .slice none 0 0]
              have hgS := hv18.size
              have hv21 := hv18.alloc (.cells #[.int .i64 0, .int .i64 0, .int .i64 0, .int .i64 0, .slice none 0 0, .slice none 0 0] 30)
              refine CallStep.mk (by rfl) (fun K hK => ?_)
              go_simp
              refine hK.out _ _ (by exact ⟨(hv21.cell (p := ⟨b, off, none⟩) hb).trans k0, (hv21.cell (p := ⟨b, off + 1, none⟩) hb).trans k1, (hv21.cell (p := ⟨b, off + 2, none⟩) hb).trans k2, (hv21.cell (p := ⟨b, off + 3, none⟩) hb).trans k3⟩) ?_
              clear hK K
              try simp only [Act.put, List.setIfInBounds_toArray, List.set_cons_zero, List.set_cons_succ]
              change HP _ _ _ _ _ _ (v18.alloc (.cells #[.int .i64 0, .int .i64 0, .int .i64 0, .int .i64 0, .slice none 0 0, .slice none 0 0] 30))
              generalize v18.alloc (.cells #[.int .i64 0, .int .i64 0, .int .i64 0, .int .i64 0, .slice none 0 0, .slice none 0 0] 30) = v21 at *
              generalize v18.heap.size = gS at *
              refine HP.call ?_
              refine CallStep.mk (by rfl) (fun K hK => ?_)
              refine wp_addAllJ _ _ rfl w4.heap.size gi (dropA (some ⟨b, off, none⟩) c) (c - 4) xs rfl rfl ri21 (HRow.out _ hv21) (by have := HLen.out; omega) hv21.size ?_
              intro A5 c5 v22 rI22 hG22
              intro _
              have hv22 := hG22.nx w4 hv21 (Nat.le_refl _)
              have rM22 := rM21.grew hG22 (by decide)
              have bS22 := hG22.box _ _ _ (by decide) bS21
              refine hK.out _ _ (by exact ⟨(hv22.cell (p := ⟨b, off, none⟩) hb).trans k0, (hv22.cell (p := ⟨b, off + 1, none⟩) hb).trans k1, (hv22.cell (p := ⟨b, off + 2, none⟩) hb).trans k2, (hv22.cell (p := ⟨b, off + 3, none⟩) hb).trans k3⟩) ?_
              clear hK K
              try simp only [Act.put, List.setIfInBounds_toArray, List.set_cons_zero, List.set_cons_succ]
              repeat (first | (refine HP.take (v := ?_) (by rfl) ?_ ?_; rotate_left; (· (intro w hSw; (try dsimp only at hSw); go_simp; try with_reducible rfl)); (try simp only [Act.put, List.setIfInBounds_toArray, List.set_cons_zero, List.set_cons_succ])) | (refine HP.skip (by rfl) ?_; (try simp only [Act.put, List.setIfInBounds_toArray, List.set_cons_zero, List.set_cons_succ])))
              exact key gi gS gm A5 c5 v22 ⟨bS22, rM22, rI22, hv22, hgS⟩
          · have rM23 := rM17.nx ((Nx.refl v17).alloc (.cells #[.int .i64 0, .int .i64 0, .int .i64 0, .int .i64 0, .slice none 0 0, .slice none 0 0] 30))
            have bS23 := Box.new v17 30 #[.int .i64 0, .int .i64 0, .int .i64 0, .int .i64 0, .slice none 0 0, .slice none 0 0]
            have hgS := hv17.size
            have hv23 := hv17.alloc (.cells #[.int .i64 0, .int .i64 0, .int .i64 0, .int .i64 0, .slice none 0 0, .slice none 0 0] 30)
            refine CallStep.mk (by rfl) (fun K hK => ?_)
            go_simp
            refine hK.out _ _ (by exact ⟨(hv23.cell (p := ⟨b, off, none⟩) hb).trans k0, (hv23.cell (p := ⟨b, off + 1, none⟩) hb).trans k1, (hv23.cell (p := ⟨b, off + 2, none⟩) hb).trans k2, (hv23.cell (p := ⟨b, off + 3, none⟩) hb).trans k3⟩) ?_
            clear hK K
            try simp only [Act.put, List.setIfInBounds_toArray, List.set_cons_zero, List.set_cons_succ]
            change HP _ _ _ _ _ _ (v17.alloc (.cells #[.int .i64 0, .int .i64 0, .int .i64 0, .int .i64 0, .slice none 0 0, .slice none 0 0] 30))
            generalize v17.alloc (.cells #[.int .i64 0, .int .i64 0, .int .i64 0, .int .i64 0, .slice none 0 0, .slice none 0 0] 30) = v23 at *
            generalize v17.heap.size = gS at *
            refine HP.call ?_
            have rM24 := rM23.nx ((Nx.refl v23).alloc (.cells #[] 3))
            have bS24 := bS23.nx ((Nx.refl v23).alloc (.cells #[] 3))
            have ri24 := RowI.new v23 (B := w4.heap.size) hv23.size
            have hv24 := hv23.alloc (.cells #[] 3)
            refine CallStep.mk (by rfl) (fun K hK => ?_)
            go_simp
            refine hK.out _ _ (by exact ⟨(hv24.cell (p := ⟨b, off, none⟩) hb).trans k0, (hv24.cell (p := ⟨b, off + 1, none⟩) hb).trans k1, (hv24.cell (p := ⟨b, off + 2, none⟩) hb).trans k2, (hv24.cell (p := ⟨b, off + 3, none⟩) hb).trans k3⟩) ?_
            clear hK K
            try simp only [Act.put, List.setIfInBounds_toArray, List.set_cons_zero, List.set_cons_succ]
            change HP _ _ _ _ _ _ (v23.alloc (.cells #[] 3))
            generalize v23.alloc (.cells #[] 3) = v24 at *
            generalize v23.heap.size = gi at *
            refine HP.call ?_
            refine CallStep.mk (by rfl) (fun K hK => ?_)
            refine wp_addAllJ _ _ rfl w4.heap.size gi (dropA (some ⟨b, off, none⟩) c) (c - 4) xs rfl rfl ri24 (HRow.out _ hv24) (by have := HLen.out; omega) hv24.size ?_
            intro A5 c5 v25 rI25 hG25
            intro _
            have hv25 := hG25.nx w4 hv24 (Nat.le_refl _)
            have rM25 := rM24.grew hG25 (by decide)
            have bS25 := hG25.box _ _ _ (by decide) bS24
            refine hK.out _ _ (by exact ⟨(hv25.cell (p := ⟨b, off, none⟩) hb).trans k0, (hv25.cell (p := ⟨b, off + 1, none⟩) hb).trans k1, (hv25.cell (p := ⟨b, off + 2, none⟩) hb).trans k2, (hv25.cell (p := ⟨b, off + 3, none⟩) hb).trans k3⟩) ?_
            clear hK K
            try simp only [Act.put, List.setIfInBounds_toArray, List.set_cons_zero, List.set_cons_succ]
            repeat (first | (refine HP.take (v := ?_) (by rfl) ?_ ?_; rotate_left; (· (intro w hSw; (try dsimp only at hSw); go_simp; try with_reducible rfl)); (try simp only [Act.put, List.setIfInBounds_toArray, List.set_cons_zero, List.set_cons_succ])) | (refine HP.skip (by rfl) ?_; (try simp only [Act.put, List.setIfInBounds_toArray, List.set_cons_zero, List.set_cons_succ])))
            exact key gi gS gm A5 c5 v25 ⟨bS25, rM25, rI25, hv25, hgS⟩
        · have bS26 := Box.new wd 30 #[.int .i64 0, .int .i64 0, .int .i64 0, .int .i64 0, .slice none 0 0, .slice none 0 0]
          have hgS := hd.size
          have hv26 := hd.alloc (.cells #[.int .i64 0, .int .i64 0, .int .i64 0, .int .i64 0, .slice none 0 0, .slice none 0 0] 30)
          refine CallStep.mk (by rfl) (fun K hK => ?_)
          go_simp
          refine hK.out _ _ (by exact ⟨(hv26.cell (p := ⟨b, off, none⟩) hb).trans k0, (hv26.cell (p := ⟨b, off + 1, none⟩) hb).trans k1, (hv26.cell (p := ⟨b, off + 2, none⟩) hb).trans k2, (hv26.cell (p := ⟨b, off + 3, none⟩) hb).trans k3⟩) ?_
          clear hK K
          try simp only [Act.put, List.setIfInBounds_toArray, List.set_cons_zero, List.set_cons_succ]
          change HP _ _ _ _ _ _ (wd.alloc (.cells #[.int .i64 0, .int .i64 0, .int .i64 0, .int .i64 0, .slice none 0 0, .slice none 0 0] 30))
          generalize wd.alloc (.cells #[.int .i64 0, .int .i64 0, .int .i64 0, .int .i64 0, .slice none 0 0, .slice none 0 0] 30) = v26 at *
          generalize wd.heap.size = gS at *
          refine HP.both ?_ ?_
          · have bS27 := bS26.nx ((Nx.refl v26).alloc (.cells #[] 3))
            have ri27 := RowI.new v26 (B := w4.heap.size) hv26.size
            have hv27 := hv26.alloc (.cells #[] 3)
            refine CallStep.mk (by rfl) (fun K hK => ?_)
            go_simp
            refine hK.out _ _ (by exact ⟨(hv27.cell (p := ⟨b, off, none⟩) hb).trans k0, (hv27.cell (p := ⟨b, off + 1, none⟩) hb).trans k1, (hv27.cell (p := ⟨b, off + 2, none⟩) hb).trans k2, (hv27.cell (p := ⟨b, off + 3, none⟩) hb).trans k3⟩) ?_
            clear hK K
            try simp only [Act.put, List.setIfInBounds_toArray, List.set_cons_zero, List.set_cons_succ]
            change HP _ _ _ _ _ _ (v26.alloc (.cells #[] 3))
            generalize v26.alloc (.cells #[] 3) = v27 at *
            generalize v26.heap.size = gi at *
            refine HP.both ?_ ?_
            · refine CallStep.mk (by rfl) (fun K hK => ?_)
              refine wp_addAllJ _ _ rfl w4.heap.size gi (dropA (some ⟨b, off, none⟩) c) (c - 4) xs rfl rfl ri27 (HRow.out _ hv27) (by have := HLen.out; omega) hv27.size ?_
              intro A5 c5 v28 rI28 hG28
              intro _
              have hv28 := hG28.nx w4 hv27 (Nat.le_refl _)
              have bS28 := hG28.box _ _ _ (by decide) bS27
              refine hK.out _ _ (by exact ⟨(hv28.cell (p := ⟨b, off, none⟩) hb).trans k0, (hv28.cell (p := ⟨b, off + 1, none⟩) hb).trans k1, (hv28.cell (p := ⟨b, off + 2, none⟩) hb).trans k2, (hv28.cell (p := ⟨b, off + 3, none⟩) hb).trans k3⟩) ?_
              clear hK K
              try simp only [Act.put, List.setIfInBounds_toArray, List.set_cons_zero, List.set_cons_succ]
              refine HP.call ?_
              have bS29 := bS28.nx ((Nx.refl v28).alloc (.cells #[] 199))
              have rI29 := rI28.nx ((Nx.refl v28).alloc (.cells #[] 199))
              have rM29 := RowM.new v28 (B := w4.heap.size) hv28.size
              have hv29 := hv28.alloc (.cells #[] 199)
              refine CallStep.mk (by rfl) (fun K hK => ?_)
              go_simp
              refine hK.out _ _ (by exact ⟨(hv29.cell (p := ⟨b, off, none⟩) hb).trans k0, (hv29.cell (p := ⟨b, off + 1, none⟩) hb).trans k1, (hv29.cell (p := ⟨b, off + 2, none⟩) hb).trans k2, (hv29.cell (p := ⟨b, off + 3, none⟩) hb).trans k3⟩) ?_
              clear hK K
              try simp only [Act.put, List.setIfInBounds_toArray, List.set_cons_zero, List.set_cons_succ]
              change HP _ _ _ _ _ _ (v28.alloc (.cells #[] 199))
              generalize v28.alloc (.cells #[] 199) = v29 at *
              generalize v28.heap.size = gm at *
              repeat (first | (refine HP.take (v := ?_) (by rfl) ?_ ?_; rotate_left; (· (intro w hSw; (try dsimp only at hSw); go_simp; try with_reducible rfl)); (try simp only [Act.put, List.setIfInBounds_toArray, List.set_cons_zero, List.set_cons_succ])) | (refine HP.skip (by rfl) ?_; (try simp only [Act.put, List.setIfInBounds_toArray, List.set_cons_zero, List.set_cons_succ])))
              exact key gi gS gm A5 c5 v29 ⟨bS29, rM29, rI29, hv29, hgS⟩
            · have bS30 := bS27.nx ((Nx.refl v27).alloc (.cells #[] 199))
              have ri30 := ri27.nx ((Nx.refl v27).alloc (.cells #[] 199))
              have rM30 := RowM.new v27 (B := w4.heap.size) hv27.size
              have hv30 := hv27.alloc (.cells #[] 199)
              refine CallStep.mk (by rfl) (fun K hK => ?_)
              go_simp
              refine hK.out _ _ (by exact ⟨(hv30.cell (p := ⟨b, off, none⟩) hb).trans k0, (hv30.cell (p := ⟨b, off + 1, none⟩) hb).trans k1, (hv30.cell (p := ⟨b, off + 2, none⟩) hb).trans k2, (hv30.cell (p := ⟨b, off + 3, none⟩) hb).trans k3⟩) ?_
              clear hK K
              try simp only [Act.put, List.setIfInBounds_toArray, List.set_cons_zero, List.set_cons_succ]
              change HP _ _ _ _ _ _ (v27.alloc (.cells #[] 199))
              generalize v27.alloc (.cells #[] 199) = v30 at *
              generalize v27.heap.size = gm at *
              refine HP.call ?_
              refine CallStep.mk (by rfl) (fun K hK => ?_)
              refine wp_addAllJ _ _ rfl w4.heap.size gi (dropA (some ⟨b, off, none⟩) c) (c - 4) xs rfl rfl ri30 (HRow.out _ hv30) (by have := HLen.out; omega) hv30.size ?_
              intro A5 c5 v31 rI31 hG31
              intro _
              have hv31 := hG31.nx w4 hv30 (Nat.le_refl _)
              have bS31 := hG31.box _ _ _ (by decide) bS30
              have rM31 := rM30.grew hG31 (by decide)
              refine hK.out _ _ (by exact ⟨(hv31.cell (p := ⟨b, off, none⟩) hb).trans k0, (hv31.cell (p := ⟨b, off + 1, none⟩) hb).trans k1, (hv31.cell (p := ⟨b, off + 2, none⟩) hb).trans k2, (hv31.cell (p := ⟨b, off + 3, none⟩) hb).trans k3⟩) ?_
              clear hK K
              try simp only [Act.put, List.setIfInBounds_toArray, List.set_cons_zero, List.set_cons_succ]
              repeat (first | (refine HP.take (v := ?_) (by rfl) ?_ ?_; rotate_left; (· (intro w hSw; (try dsimp only at hSw); go_simp; try with_reducible rfl)); (try simp only [Act.put, List.setIfInBounds_toArray, List.set_cons_zero, List.set_cons_succ])) | (refine HP.skip (by rfl) ?_; (try simp only [Act.put, List.setIfInBounds_toArray, List.set_cons_zero, List.set_cons_succ])))
              exact key gi gS gm A5 c5 v31 ⟨bS31, rM31, rI31, hv31, hgS⟩
          · have bS32 := bS26.nx ((Nx.refl v26).alloc (.cells #[] 199))
            have rM32 := RowM.new v26 (B := w4.heap.size) hv26.size
            have hv32 := hv26.alloc (.cells #[] 199)
            refine CallStep.mk (by rfl) (fun K hK => ?_)
            go_simp
            refine hK.out _ _ (by exact ⟨(hv32.cell (p := ⟨b, off, none⟩) hb).trans k0, (hv32.cell (p := ⟨b, off + 1, none⟩) hb).trans k1, (hv32.cell (p := ⟨b, off + 2, none⟩) hb).trans k2, (hv32.cell (p := ⟨b, off + 3, none⟩) hb).trans k3⟩) ?_
            clear hK K
            try simp only [Act.put, List.setIfInBounds_toArray, List.set_cons_zero, List.set_cons_succ]
            change HP _ _ _ _ _ _ (v26.alloc (.cells #[] 199))
            generalize v26.alloc (.cells #[] 199) = v32 at *
            generalize v26.heap.size = gm at *
            refine HP.call ?_
            have bS33 := bS32.nx ((Nx.refl v32).alloc (.cells #[] 3))
            have rM33 := rM32.nx ((Nx.refl v32).alloc (.cells #[] 3))
            have ri33 := RowI.new v32 (B := w4.heap.size) hv32.size
            have hv33 := hv32.alloc (.cells #[] 3)
            refine CallStep.mk (by rfl) (fun K hK => ?_)
            go_simp
            refine hK.out _ _ (by exact ⟨(hv33.cell (p := ⟨b, off, none⟩) hb).trans k0, (hv33.cell (p := ⟨b, off + 1, none⟩) hb).trans k1, (hv33.cell (p := ⟨b, off + 2, none⟩) hb).trans k2, (hv33.cell (p := ⟨b, off + 3, none⟩) hb).trans k3⟩) ?_
            clear hK K
            try simp only [Act.put, List.setIfInBounds_toArray, List.set_cons_zero, List.set_cons_succ]
            change HP _ _ _ _ _ _ (v32.alloc (.cells #[] 3))
            generalize v32.alloc (.cells #[] 3) = v33 at *
            generalize v32.heap.size = gi at *
            refine HP.call ?_
            refine CallStep.mk (by rfl) (fun K hK => ?_)
            refine wp_addAllJ _ _ rfl w4.heap.size gi (dropA (some ⟨b, off, none⟩) c) (c - 4) xs rfl rfl ri33 (HRow.out _ hv33) (by have := HLen.out; omega) hv33.size ?_
            intro A5 c5 v34 rI34 hG34
            intro _
            have hv34 := hG34.nx w4 hv33 (Nat.le_refl _)
            have bS34 := hG34.box _ _ _ (by decide) bS33
            have rM34 := rM33.grew hG34 (by decide)
            refine hK.out _ _ (by exact ⟨(hv34.cell (p := ⟨b, off, none⟩) hb).trans k0, (hv34.cell (p := ⟨b, off + 1, none⟩) hb).trans k1, (hv34.cell (p := ⟨b, off + 2, none⟩) hb).trans k2, (hv34.cell (p := ⟨b, off + 3, none⟩) hb).trans k3⟩) ?_
            clear hK K
            try simp only [Act.put, List.setIfInBounds_toArray, List.set_cons_zero, List.set_cons_succ]
            repeat (first | (refine HP.take (v := ?_) (by rfl) ?_ ?_; rotate_left; (· (intro w hSw; (try dsimp only at hSw); go_simp; try with_reducible rfl)); (try simp only [Act.put, List.setIfInBounds_toArray, List.set_cons_zero, List.set_cons_succ])) | (refine HP.skip (by rfl) ?_; (try simp only [Act.put, List.setIfInBounds_toArray, List.set_cons_zero, List.set_cons_succ])))
            exact key gi gS gm A5 c5 v34 ⟨bS34, rM34, rI34, hv34, hgS⟩
      intro gi gS gm A5 c5 w5 hF
      obtain ⟨bS, rM, rI, hx5, hgS⟩ := hF
      obtain ⟨r0, r1, r2, r3, r4, r5⟩ := bS.d6
      have rf0 := bS.frozen 0
      have rf1 := bS.frozen 1
      have rf2 := bS.frozen 2
      have rf3 := bS.frozen 3
      have rf4 := bS.frozen 4
      have rf5 := bS.frozen 5
      have rlt := bS.lt
      show HP _ _ _ _ _ _ _
      refine HP.call ?_
      refine CallStep.mk (by rfl) (fun K hK => ?_)
      go_simp
      refine hK.out _ _ (by exact ⟨((put6_nx hx5 hgS (.int .i64 n0) (.int .i64 n1) (.int .i64 n2) (.int .i64 n3) (.slice A5 xs.length c5) (.slice (some ⟨gm, 0, none⟩) 0 0)).cell (p := ⟨b, off, none⟩) hb).trans k0, ((put6_nx hx5 hgS (.int .i64 n0) (.int .i64 n1) (.int .i64 n2) (.int .i64 n3) (.slice A5 xs.length c5) (.slice (some ⟨gm, 0, none⟩) 0 0)).cell (p := ⟨b, off + 1, none⟩) hb).trans k1, ((put6_nx hx5 hgS (.int .i64 n0) (.int .i64 n1) (.int .i64 n2) (.int .i64 n3) (.slice A5 xs.length c5) (.slice (some ⟨gm, 0, none⟩) 0 0)).cell (p := ⟨b, off + 2, none⟩) hb).trans k2, ((put6_nx hx5 hgS (.int .i64 n0) (.int .i64 n1) (.int .i64 n2) (.int .i64 n3) (.slice A5 xs.length c5) (.slice (some ⟨gm, 0, none⟩) 0 0)).cell (p := ⟨b, off + 3, none⟩) hb).trans k3⟩) ?_
      clear hK K
      try simp only [Act.put, List.setIfInBounds_toArray, List.set_cons_zero, List.set_cons_succ]
      refine HP.done ?_
      clear r0 r1 r2 r3 r4 r5 rf0 rf1 rf2 rf3 rf4 rf5 rlt
      obtain ⟨A5b, c5b, he5, hc5b, hS5⟩ := rI.slc
      injection he5 with e5a _ e5b
      subst e5a e5b
      have hc5 := hc5b
      have bs := put6_box bS (.int .i64 n0) (.int .i64 n1) (.int .i64 n2) (.int .i64 n3) (.slice A5 xs.length c5) (.slice (some ⟨gm, 0, none⟩) 0 0)
      have hx6 := put6_nx hx5 hgS (.int .i64 n0) (.int .i64 n1) (.int .i64 n2) (.int .i64 n3) (.slice A5 xs.length c5) (.slice (some ⟨gm, 0, none⟩) 0 0)
      have hS6 := hS5.pt6t bS (by decide) (.int .i64 n0) (.int .i64 n1) (.int .i64 n2) (.int .i64 n3) (.slice A5 xs.length c5) (.slice (some ⟨gm, 0, none⟩) 0 0)
      have hM6 := rM.pt6t bS (by decide) (.int .i64 n0) (.int .i64 n1) (.int .i64 n2) (.int .i64 n3) (.slice A5 xs.length c5) (.slice (some ⟨gm, 0, none⟩) 0 0)
      change Exit.then _ _ _ _ (put6 w5 gS (.int .i64 n0) (.int .i64 n1) (.int .i64 n2) (.int .i64 n3) (.slice A5 xs.length c5) (.slice (some ⟨gm, 0, none⟩) 0 0))
      generalize (put6 w5 gS (.int .i64 n0) (.int .i64 n1) (.int .i64 n2) (.int .i64 n3) (.slice A5 xs.length c5) (.slice (some ⟨gm, 0, none⟩) 0 0)) = w6 at *
      clear bS rM rI hx5 hS5
      clear k0 k1 k2 k3 hi0' hi1' hi2' hi3' hm0 hm1 hm2 hm3
      have p16 := (hx6.cell (p := ⟨gp, 1, none⟩) hgp4).trans p14
      go_wp2_with fail
      refine (l00Cut_c sb 44 _ hlb).mono ?_
      rintro e w8 ⟨A9, c9, rfl, hW8, hnx8⟩
      have HO := Lib.hid (fun h => marksO_cut (s := sb) h)
      have HPt := Lib.hid (fun k => cutB_part (c := 44) (t := sb) k)
      have hl9 : (cutB 44 sb).length ≤ 65537 := by rw [cutB_len]; have := cutL_size 44 sb.data.toList; rw [← ba_size] at this; omega
      have hl1 : 1 ≤ (cutB 44 sb).length := by rw [cutB_len]; exact cutL_pos _ _
      rw [Hdb.out] at HO
      have HZe := Lib.hid (fun (h : sb.size = 0) => marksO_nil h)
      rw [Hdb.out] at HZe
      obtain ⟨ws, Hws⟩ : ∃ ws, Hid (cutB 44 sb = ws) := ⟨_, rfl⟩
      rw [Hws.out] at hW8 HO hl9 hl1 HPt ⊢
      have bs8 := bs.nx hnx8
      have hM8 := hM6.nx hnx8
      have hS8 := hS6.nx hnx8
      have hx8 := hx6.trans hnx8
      have hgW : w6.heap.size ≤ w8.heap.size := hnx8.size
      have hW8' := hW8.low (lo' := w4.heap.size) hx6.size
      clear bs hM6 hS6 hx6 hnx8 p16 hW8
      go_wp2
      go_loopw [11] (fun i wr => ∃ (k : Nat) (v : Value) (ms : List Mrk), k ≤ ws.length ∧ i = .int .i64 k ∧ Box wr gS 30 #[.int .i64 n0, .int .i64 n1, .int .i64 n2, .int .i64 n3, .slice A5 xs.length c5, v] ∧ RowM wr w4.heap.size v ms ∧ SlI wr w4.heap.size A5 xs ∧ Sl wr w4.heap.size A9 9 ws.length (wdAt ws) ∧ Hid (marksB (ws.take k) = some ms) ∧ Hid (sb.size = 0 → k = 0) ∧ Nx w4 wr) (fun i _ => ws.length - (intOf i).toNat)
      case atStart => exact ⟨0, _, [], Nat.zero_le _, rfl, bs8, hM8, hS8, hW8', Lib.hid rfl, Lib.hid (fun _ => rfl), hx8⟩
      case round =>
        obtain ⟨k, v, ms, hk, rfl, bg, rM, hS, hW, HM, HK, hxr⟩ := hrel
        clear bs8 hM8 hS8 hW8' hx8
        have p1r := (hxr.cell (p := ⟨gp, 1, none⟩) hgp4).trans p14
        by_cases hz : sb.size = 0
        · obtain rfl := HK.out hz
          have hlt0 : 0 < ws.length := by omega
          have hq : (sb.toList != []) = false := by
            rw [bne_eq_false_iff_eq, ByteArray.toList_eq]; exact List.eq_nil_of_length_eq_zero (by rw [← ba_size]; exact hz)
          have hq0 : (sb.toList == []) = true := by
            rw [beq_iff_eq, ByteArray.toList_eq]; exact List.eq_nil_of_length_eq_zero (by rw [← ba_size]; exact hz)
          have HMs : Hid (marksO lb = some ms) := Lib.hid (by rw [HZe.out hz]; exact HM.out)
          clear hz
          obtain ⟨A2, c2, rfl, _, hM⟩ := rM.slc
          have hfit := marksO_fit HLb.out HMs.out
          have hml := hfit.1
          have HAm := Lib.hid hfit.2
          have HU := Lib.hid (HPu.out.trans (partU_yes HNs.out hl4 HMs.out))
          have b6 := b4.nx hxr
          have hxw6 := hx4.trans hxr
          obtain ⟨y0, y1, y2, y3, y4, y5⟩ := bg.d6
          clear hfit
          go_wp2_with fail
          refine (specSuperOK_c n0 n1 n2 n3 A5 A2 c5 c2 _ xs ms _ hS.row hM.row (Nat.le_refl _) (by have := HLen.out; omega) hml hc5 HAm.out).mono ?_
          rintro e w7 ⟨rfl, hnx7⟩
          have b7 := b6.nx hnx7
          have bs7 := bg.nx hnx7
          have hx7 := hxw6.trans hnx7
          have hS7 := hS.nx hnx7
          have hM7 := hM.nx hnx7
          clear y0 y1 y2 y3 y4 y5
          obtain ⟨y0, y1, y2, y3, y4, y5⟩ := bs7.d6
          cases hf : superB n0 n1 n2 n3 xs ms with
          | false =>
            have HF := Lib.hid (HU.out.trans (supOf_no (by rw [Hn0.out, Hn1.out, Hn2.out, Hn3.out, Hxs.out]; exact hf)))
            clear hf
            obtain ⟨u0, u1, u2, u3, u4, u5⟩ := b7.d6
            have f0 := b7.frozen 0
            have f1 := b7.frozen 1
            have f2 := b7.frozen 2
            have f3 := b7.frozen 3
            have f4 := b7.frozen 4
            have f5 := b7.frozen 5
            go_wp2
            have q := (put6_box b7 (.int .i64 0) (.int .i64 0) (.int .i64 0) (.int .i64 0) (.slice none 0 0) (.slice none 0 0))
            have hnf := (put6_nx hx7 (Nat.le_refl w.heap.size) (.int .i64 0) (.int .i64 0) (.int .i64 0) (.int .i64 0) (.slice none 0 0) (.slice none 0 0))
            change bodyPost _ _ _ _ _ (put6 w7 w.heap.size (.int .i64 0) (.int .i64 0) (.int .i64 0) (.int .i64 0) (.slice none 0 0) (.slice none 0 0))
            change Box (put6 w7 w.heap.size (.int .i64 0) (.int .i64 0) (.int .i64 0) (.int .i64 0) (.slice none 0 0) (.slice none 0 0)) _ _ _ at q
            generalize put6 w7 w.heap.size (.int .i64 0) (.int .i64 0) (.int .i64 0) (.int .i64 0) (.slice none 0 0) (.slice none 0 0) = Wf at *
            obtain ⟨g0, g1, g2, g3, g4, g5⟩ := q.d6
            exact bodyPost_ret (v := .tuple #[.agg #[.int .i64 0, .int .i64 0, .int .i64 0, .int .i64 0, .slice none 0 0, .slice none 0 0], .bool false]) (by simp [results, Tryz.results205, go_sem, g0, g1, g2, g3, g4, g5]) rfl (RetSU.no HF.out hnf)
          | true =>
            have HF := Lib.hid (HU.out.trans (supOf_yes (by rw [Hn0.out, Hn1.out, Hn2.out, Hn3.out, Hxs.out]; exact hf)))
            rw [Hn0.out, Hn1.out, Hn2.out, Hn3.out, Hxs.out] at HF
            clear hf
            have hgl : w.heap.size < w4.heap.size := b4.lt
            obtain ⟨u0, u1, u2, u3, u4, u5⟩ := b7.d6
            have f0 := b7.frozen 0
            have f1 := b7.frozen 1
            have f2 := b7.frozen 2
            have f3 := b7.frozen 3
            have f4 := b7.frozen 4
            have f5 := b7.frozen 5
            go_wp2
            have q := (put6_box b7 (.int .i64 n0) (.int .i64 n1) (.int .i64 n2) (.int .i64 n3) (.slice A5 xs.length c5) (.slice A2 ms.length c2))
            have hnf := (put6_nx hx7 (Nat.le_refl w.heap.size) (.int .i64 n0) (.int .i64 n1) (.int .i64 n2) (.int .i64 n3) (.slice A5 xs.length c5) (.slice A2 ms.length c2))
            have hsf := (hS7.pt6 hgl (.int .i64 n0) (.int .i64 n1) (.int .i64 n2) (.int .i64 n3) (.slice A5 xs.length c5) (.slice A2 ms.length c2))
            change Sl (put6 w7 w.heap.size (.int .i64 n0) (.int .i64 n1) (.int .i64 n2) (.int .i64 n3) (.slice A5 xs.length c5) (.slice A2 ms.length c2)) _ _ _ _ _ at hsf
            have hmf := (hM7.pt6 hgl (.int .i64 n0) (.int .i64 n1) (.int .i64 n2) (.int .i64 n3) (.slice A5 xs.length c5) (.slice A2 ms.length c2))
            change Sl (put6 w7 w.heap.size (.int .i64 n0) (.int .i64 n1) (.int .i64 n2) (.int .i64 n3) (.slice A5 xs.length c5) (.slice A2 ms.length c2)) _ _ _ _ _ at hmf
            change bodyPost _ _ _ _ _ (put6 w7 w.heap.size (.int .i64 n0) (.int .i64 n1) (.int .i64 n2) (.int .i64 n3) (.slice A5 xs.length c5) (.slice A2 ms.length c2))
            change Box (put6 w7 w.heap.size (.int .i64 n0) (.int .i64 n1) (.int .i64 n2) (.int .i64 n3) (.slice A5 xs.length c5) (.slice A2 ms.length c2)) _ _ _ at q
            generalize put6 w7 w.heap.size (.int .i64 n0) (.int .i64 n1) (.int .i64 n2) (.int .i64 n3) (.slice A5 xs.length c5) (.slice A2 ms.length c2) = Wf at *
            obtain ⟨g0, g1, g2, g3, g4, g5⟩ := q.d6
            exact bodyPost_ret (v := .tuple #[.agg #[.int .i64 n0, .int .i64 n1, .int .i64 n2, .int .i64 n3, .slice A5 xs.length c5, .slice A2 ms.length c2], .bool true]) (by simp [results, Tryz.results205, go_sem, g0, g1, g2, g3, g4, g5]) rfl (RetSU.yes HF.out hc5 (hsf.low (by omega)) (hmf.low (by omega)) hnf)
        · have hq : (sb.toList != []) = true := by
            rw [bne_iff_ne, ByteArray.toList_eq]; intro h; exact hz (by rw [ba_size, h]; rfl)
          have hq0 : (sb.toList == []) = false := by
            rw [beq_eq_false_iff_ne, ByteArray.toList_eq]; intro h; exact hz (by rw [ba_size, h]; rfl)
          have HZ := Lib.hid hz
          clear hz
          by_cases hlt : k < ws.length
          · obtain ⟨gx, rfl, hgx, hgx2, _, hc0⟩ := hW.box0 (by omega)
            have hc := hc0 k hlt
            clear hc0
            unfold wdAt at hc
            have hsz := HPt.out k
            have HNo := Lib.hid (fun h => (HO.out HZ.out).trans (marksB_no hlt h))
            have HYes := Lib.hid (fun m (h : wordB (ws.getD k ByteArray.empty) = some m) => marksB_succ hlt HM.out h)
            have hml : ms.length = k := by rw [marksB_len HM.out, List.length_take]; omega
            have Hml := Lib.hid hml
            obtain ⟨x, Hx⟩ : ∃ x, Hid (ws.getD k ByteArray.empty = x) := ⟨_, rfl⟩
            rw [Hx.out] at hc hsz HNo HYes
            clear hml
            go_wp2_with fail
            refine (l00Cut_c x 61 _ (by omega)).mono ?_
            rintro e w9 ⟨Aw, cw, rfl, hV, hnx9⟩
            have bg9 := bg.nx hnx9
            have rM9 := rM.nx hnx9
            have hS9 := hS.nx hnx9
            have hW9 := hW.nx hnx9
            have hx9 := hxr.trans hnx9
            have b9 := b4.nx hx9
            have hxw9 := hx4.trans hx9
            have hsg9 := hxr.size
            clear bg rM hS hW hxr hnx9 hc p1r
            by_cases h2 : (cutB 61 x).length = 2
            case neg =>
              have HF := Lib.hid (HPu.out.trans (partU_marks HNs.out (HNo.out (wordB_more h2))))
              have hd2w : (((cutB 61 x).length : Int) != 2) = true := by rw [bne_iff_ne]; omega
              clear h2 HNo HYes
              obtain ⟨u0, u1, u2, u3, u4, u5⟩ := b9.d6
              have f0 := b9.frozen 0
              have f1 := b9.frozen 1
              have f2 := b9.frozen 2
              have f3 := b9.frozen 3
              have f4 := b9.frozen 4
              have f5 := b9.frozen 5
              go_wp2
              have q := (put6_box b9 (.int .i64 0) (.int .i64 0) (.int .i64 0) (.int .i64 0) (.slice none 0 0) (.slice none 0 0))
              have hnf := (put6_nx hxw9 (Nat.le_refl w.heap.size) (.int .i64 0) (.int .i64 0) (.int .i64 0) (.int .i64 0) (.slice none 0 0) (.slice none 0 0))
              change bodyPost _ _ _ _ _ (put6 w9 w.heap.size (.int .i64 0) (.int .i64 0) (.int .i64 0) (.int .i64 0) (.slice none 0 0) (.slice none 0 0))
              change Box (put6 w9 w.heap.size (.int .i64 0) (.int .i64 0) (.int .i64 0) (.int .i64 0) (.slice none 0 0) (.slice none 0 0)) _ _ _ at q
              generalize put6 w9 w.heap.size (.int .i64 0) (.int .i64 0) (.int .i64 0) (.int .i64 0) (.slice none 0 0) (.slice none 0 0) = Wf at *
              obtain ⟨g0, g1, g2, g3, g4, g5⟩ := q.d6
              exact bodyPost_ret (v := .tuple #[.agg #[.int .i64 0, .int .i64 0, .int .i64 0, .int .i64 0, .slice none 0 0, .slice none 0 0], .bool false]) (by simp [results, Tryz.results205, go_sem, g0, g1, g2, g3, g4, g5]) rfl (RetSU.no HF.out hnf)
            obtain ⟨qa', qb', hqab⟩ := cutL_of2 (c := 61) (s := x.data.toList) (by rw [← cutB_len]; exact h2)
            have HWd := Lib.hid (wordB_two hqab)
            have Hvs := Lib.hid (cutB_two hqab)
            have hqs := cutL_parts hqab
            obtain ⟨qa, Hqa⟩ : ∃ y, Hid (baL qa' = y) := ⟨_, rfl⟩
            obtain ⟨qb, Hqb⟩ : ∃ y, Hid (baL qb' = y) := ⟨_, rfl⟩
            have Hdq := Lib.hid (show qb.data.toList = qb' by rw [← Hqb.out]; rfl)
            have hqbs : qb.size ≤ 65536 := by rw [← Hqb.out, baL_size]; have := hqs.2; rw [← ba_size] at this; omega
            rw [Hqa.out] at HWd
            obtain ⟨us, Hus⟩ : ∃ y, Hid (cutB 61 x = y) := ⟨_, rfl⟩
            rw [Hus.out] at hV h2 Hvs ⊢
            have hd2w : ((us.length : Int) != 2) = false := by rw [bne_eq_false_iff_eq]; omega
            obtain ⟨gw, rfl, hgwl, hgw9, hBw9, hcu⟩ := hV.box0 (by omega)
            have u0 : w9.cell? ⟨gw, 0, none⟩ = some (.string qa) := by have := hcu 0 (by omega); unfold wdAt at this; rw [(getD_two Hvs.out).1, Hqa.out] at this; exact this
            have u1 : w9.cell? ⟨gw, 1, none⟩ = some (.string qb) := by have := hcu 1 (by omega); unfold wdAt at this; rw [(getD_two Hvs.out).2, Hqb.out] at this; exact this
            have hu0' : (0 : Int) < (us.length : Int) := by omega
            have hu1' : (1 : Int) < (us.length : Int) := by omega
            have hum0 : 0 < us.length := by omega
            have hum1 : 1 < us.length := by omega
            clear h2 hqab hqs hcu hV
            go_wp2_with fail
            refine (l04Number_c qb _ hqbs).mono ?_
            rintro e w10 ⟨qn, rfl, hqn, hnx10⟩
            rw [Hdq.out] at hqn ⊢
            have bg10 := bg9.nx hnx10
            have rM10 := rM9.nx hnx10
            have hS10 := hS9.nx hnx10
            have hW10 := hW9.nx hnx10
            have hx10 := hx9.trans hnx10
            have b10 := b4.nx hx10
            have hxwA := hx4.trans hx10
            have y0 := (hnx10.cell (p := ⟨gw, 0, none⟩) hgw9).trans u0
            have hgw : gw < w10.heap.size := Nat.lt_of_lt_of_le hgw9 hnx10.size
            obtain ⟨csw, hBx9⟩ := hBw9
            have hBx := hBx9.nx hnx10
            have hne : gw ≠ gS := hBx.ne_ty bg10 (by decide)
            cases hp : plainB qb' with
            | false =>
              have HF := Lib.hid (HPu.out.trans (partU_marks HNs.out (HNo.out (by rw [HWd.out, hp]; rfl))))
              clear hp HNo HYes hqn
              obtain ⟨u0, u1, u2, u3, u4, u5⟩ := b10.d6
              have f0 := b10.frozen 0
              have f1 := b10.frozen 1
              have f2 := b10.frozen 2
              have f3 := b10.frozen 3
              have f4 := b10.frozen 4
              have f5 := b10.frozen 5
              go_wp2
              have q := (put6_box b10 (.int .i64 0) (.int .i64 0) (.int .i64 0) (.int .i64 0) (.slice none 0 0) (.slice none 0 0))
              have hnf := (put6_nx hxwA (Nat.le_refl w.heap.size) (.int .i64 0) (.int .i64 0) (.int .i64 0) (.int .i64 0) (.slice none 0 0) (.slice none 0 0))
              change bodyPost _ _ _ _ _ (put6 w10 w.heap.size (.int .i64 0) (.int .i64 0) (.int .i64 0) (.int .i64 0) (.slice none 0 0) (.slice none 0 0))
              change Box (put6 w10 w.heap.size (.int .i64 0) (.int .i64 0) (.int .i64 0) (.int .i64 0) (.slice none 0 0) (.slice none 0 0)) _ _ _ at q
              generalize put6 w10 w.heap.size (.int .i64 0) (.int .i64 0) (.int .i64 0) (.int .i64 0) (.slice none 0 0) (.slice none 0 0) = Wf at *
              obtain ⟨g0, g1, g2, g3, g4, g5⟩ := q.d6
              exact bodyPost_ret (v := .tuple #[.agg #[.int .i64 0, .int .i64 0, .int .i64 0, .int .i64 0, .slice none 0 0, .slice none 0 0], .bool false]) (by simp [results, Tryz.results205, go_sem, g0, g1, g2, g3, g4, g5]) rfl (RetSU.no HF.out hnf)
            | true =>
            have hqn' := hqn hp
            have HY := Lib.hid (HYes.out (qa, qn) (by rw [HWd.out, hp, hqn']; rfl))
            clear hp HNo HYes hqn hqn' u0 u1
            go_wp2_with fail
            refine wp_region_plan (.t 0 (.t 2 (.t 3 (.t 4 (.t 5 (.t 6 (.b 1 (.c 7 (.c 8 (.t 9 (.c 10 .e)))) 7 (.c 1 (.c 8 (.t 9 (.c 10 .e))))))))))) (fun w' => w'.cell? ⟨gw, 0, none⟩ = some (.string qa)) (by kernel_rfl) (by kernel_rfl) rfl (by kernel_rfl) (fun _ _ d _ _ h => by cases d <;> exact h) (by exact ((Nx.refl w10).drew.cell (p := ⟨gw, 0, none⟩) hgw).trans y0) ?_
            simp only [psOf, List.getD_cons_zero, List.getD_cons_succ]
            repeat (first | (refine HP.take (v := ?_) (by rfl) ?_ ?_; rotate_left; (· (intro w hSw; (try dsimp only at hSw); go_simp; try with_reducible rfl)); (try simp only [Act.put, List.setIfInBounds_toArray, List.set_cons_zero, List.set_cons_succ])) | (refine HP.skip (by rfl) ?_; (try simp only [Act.put, List.setIfInBounds_toArray, List.set_cons_zero, List.set_cons_succ])))
            refine HP.both ?_ ?_
            · have hz := (Nx.refl w10).drew.alloc (.cells #[.string qa, .int .i64 qn] 199)
              have bm : Box (w10.drew.alloc (.cells #[.string qa, .int .i64 qn] 199)) w10.heap.size 199 #[.string qa, .int .i64 qn] := Box.new w10.drew _ _
              have bgz := bg10.nx hz
              have rMz := rM10.nx hz
              have hSz := hS10.nx hz
              have hWz := hW10.nx hz
              obtain ⟨_, _, _, _, _, l5⟩ := (bg10.nx (Nx.refl w10).drew).d6
              have l6 : (w10.alloc (.cells #[.string qa, .int .i64 qn] 199)).cell? ⟨gS, 5, none⟩ = some v := bgz.d6.2.2.2.2.2
              refine CallStep.mk (by rfl) (fun K hK => ?_)
              go_simp
              refine hK.out _ _ (by exact ((Nx.refl w10).drew.cell (p := ⟨gw, 0, none⟩) hgw).trans y0) ?_
              clear hK K
              try simp only [Act.put, List.setIfInBounds_toArray, List.set_cons_zero, List.set_cons_succ]
              refine HP.call ?_
              refine CallStep.mk (by rfl) (fun K hK => ?_)
              go_simp
              refine hK.out _ _ (by exact (hz.cell (p := ⟨gw, 0, none⟩) hgw).trans y0) ?_
              clear hK K
              try simp only [Act.put, List.setIfInBounds_toArray, List.set_cons_zero, List.set_cons_succ]
              change HP _ _ _ _ _ _ (w10.drew.alloc (.cells #[.string qa, .int .i64 qn] 199))
              generalize w10.drew.alloc (.cells #[.string qa, .int .i64 qn] 199) = wz at *
              have hxz := hx10.trans hz
              refine HP.call ?_
              refine CallStep.mk (by rfl) (fun K hK => ?_)
              refine wp_addM _ _ rfl w4.heap.size w10.heap.size v ms (qa, qn) rfl rfl rMz bm (by have := Hml.out; omega) hxz.size ?_
              intro A12 c12 w12 rM12 hG12
              have bg12 := hG12.box _ _ _ (by decide) bgz
              have hx12 := hG12.nx w4 hxz (Nat.le_refl _)
              have hS12 := hSz.grew hG12 (by decide)
              have hW12 := hWz.grew hG12 (by decide)
              have y12 : w12.cell? ⟨gw, 0, none⟩ = some (.string qa) := ((hG12.box _ _ _ (by decide) (hBx.nx hz)).cell 0).trans ((hBx.cell 0).symm.trans y0)
              refine hK.out _ _ (by exact y12) ?_
              clear hK K
              try simp only [Act.put, List.setIfInBounds_toArray, List.set_cons_zero, List.set_cons_succ]
              repeat (first | (refine HP.take (v := ?_) (by rfl) ?_ ?_; rotate_left; (· (intro w hSw; (try dsimp only at hSw); go_simp; try with_reducible rfl)); (try simp only [Act.put, List.setIfInBounds_toArray, List.set_cons_zero, List.set_cons_succ])) | (refine HP.skip (by rfl) ?_; (try simp only [Act.put, List.setIfInBounds_toArray, List.set_cons_zero, List.set_cons_succ])))
              obtain ⟨_, _, _, _, _, d5⟩ := bg12.d6
              have f5 := bg12.frozen 5
              refine HP.call ?_
              refine CallStep.mk (by rfl) (fun K hK => ?_)
              go_simp
              refine hK.out _ _ (by exact ((Below.cell_far gw gS w12 _ hne).trans y12)) ?_
              clear hK K
              try simp only [Act.put, List.setIfInBounds_toArray, List.set_cons_zero, List.set_cons_succ]
              refine HP.done ?_
              have bg13 := bg12.set 5 (.slice A12 (ms.length + 1) c12)
              have rM13 := rM12.far (p := ⟨gS, 5, none⟩) bg12 (by decide) (.slice A12 (ms.length + 1) c12)
              have hS13 := hS12.far_ty (p := ⟨gS, 5, none⟩) bg12 (by decide) (.slice A12 (ms.length + 1) c12)
              have hW13 := hW12.far_ty (p := ⟨gS, 5, none⟩) bg12 (by decide) (.slice A12 (ms.length + 1) c12)
              have hx13 := hx12.setCell (p := ⟨gS, 5, none⟩) hgS (.slice A12 (ms.length + 1) c12)
              simp only [List.setIfInBounds_toArray, List.set_cons_zero, List.set_cons_succ] at bg13
              generalize w12.setCell ⟨gS, 5, none⟩ (.slice A12 (ms.length + 1) c12) = w13 at *
              clear d5 f5 l5 l6 y12
              go_wp2
              go_roundw
              case rel =>
                refine ⟨k + 1, _, ms ++ [(qa, qn)], by omega, by go_num, bg13, rM13, hS13, hW13, HY, Lib.hid (fun h => absurd h HZ.out), hx13⟩
              case measure => simp [intOf]; omega
            · have hz := (Nx.refl w10).drew.alloc (.cells #[.string qa, .int .i64 qn] 199)
              have bm : Box (w10.drew.alloc (.cells #[.string qa, .int .i64 qn] 199)) w10.heap.size 199 #[.string qa, .int .i64 qn] := Box.new w10.drew _ _
              have bgz := bg10.nx hz
              have rMz := rM10.nx hz
              have hSz := hS10.nx hz
              have hWz := hW10.nx hz
              obtain ⟨_, _, _, _, _, l5⟩ := (bg10.nx (Nx.refl w10).drew).d6
              have l6 : (w10.alloc (.cells #[.string qa, .int .i64 qn] 199)).cell? ⟨gS, 5, none⟩ = some v := bgz.d6.2.2.2.2.2
              refine CallStep.mk (by rfl) (fun K hK => ?_)
              go_simp
              refine hK.out _ _ (by exact (hz.cell (p := ⟨gw, 0, none⟩) hgw).trans y0) ?_
              clear hK K
              try simp only [Act.put, List.setIfInBounds_toArray, List.set_cons_zero, List.set_cons_succ]
              refine HP.call ?_
              refine CallStep.mk (by rfl) (fun K hK => ?_)
              go_simp
              refine hK.out _ _ (by exact (hz.cell (p := ⟨gw, 0, none⟩) hgw).trans y0) ?_
              clear hK K
              try simp only [Act.put, List.setIfInBounds_toArray, List.set_cons_zero, List.set_cons_succ]
              change HP _ _ _ _ _ _ (w10.drew.alloc (.cells #[.string qa, .int .i64 qn] 199))
              generalize w10.drew.alloc (.cells #[.string qa, .int .i64 qn] 199) = wz at *
              have hxz := hx10.trans hz
              refine HP.call ?_
              refine CallStep.mk (by rfl) (fun K hK => ?_)
              refine wp_addM _ _ rfl w4.heap.size w10.heap.size v ms (qa, qn) rfl rfl rMz bm (by have := Hml.out; omega) hxz.size ?_
              intro A12 c12 w12 rM12 hG12
              have bg12 := hG12.box _ _ _ (by decide) bgz
              have hx12 := hG12.nx w4 hxz (Nat.le_refl _)
              have hS12 := hSz.grew hG12 (by decide)
              have hW12 := hWz.grew hG12 (by decide)
              have y12 : w12.cell? ⟨gw, 0, none⟩ = some (.string qa) := ((hG12.box _ _ _ (by decide) (hBx.nx hz)).cell 0).trans ((hBx.cell 0).symm.trans y0)
              refine hK.out _ _ (by exact y12) ?_
              clear hK K
              try simp only [Act.put, List.setIfInBounds_toArray, List.set_cons_zero, List.set_cons_succ]
              repeat (first | (refine HP.take (v := ?_) (by rfl) ?_ ?_; rotate_left; (· (intro w hSw; (try dsimp only at hSw); go_simp; try with_reducible rfl)); (try simp only [Act.put, List.setIfInBounds_toArray, List.set_cons_zero, List.set_cons_succ])) | (refine HP.skip (by rfl) ?_; (try simp only [Act.put, List.setIfInBounds_toArray, List.set_cons_zero, List.set_cons_succ])))
              obtain ⟨_, _, _, _, _, d5⟩ := bg12.d6
              have f5 := bg12.frozen 5
              refine HP.call ?_
              refine CallStep.mk (by rfl) (fun K hK => ?_)
              go_simp
              refine hK.out _ _ (by exact ((Below.cell_far gw gS w12 _ hne).trans y12)) ?_
              clear hK K
              try simp only [Act.put, List.setIfInBounds_toArray, List.set_cons_zero, List.set_cons_succ]
              refine HP.done ?_
              have bg13 := bg12.set 5 (.slice A12 (ms.length + 1) c12)
              have rM13 := rM12.far (p := ⟨gS, 5, none⟩) bg12 (by decide) (.slice A12 (ms.length + 1) c12)
              have hS13 := hS12.far_ty (p := ⟨gS, 5, none⟩) bg12 (by decide) (.slice A12 (ms.length + 1) c12)
              have hW13 := hW12.far_ty (p := ⟨gS, 5, none⟩) bg12 (by decide) (.slice A12 (ms.length + 1) c12)
              have hx13 := hx12.setCell (p := ⟨gS, 5, none⟩) hgS (.slice A12 (ms.length + 1) c12)
              simp only [List.setIfInBounds_toArray, List.set_cons_zero, List.set_cons_succ] at bg13
              generalize w12.setCell ⟨gS, 5, none⟩ (.slice A12 (ms.length + 1) c12) = w13 at *
              clear d5 f5 l5 l6 y12
              go_wp2
              go_roundw
              case rel =>
                refine ⟨k + 1, _, ms ++ [(qa, qn)], by omega, by go_num, bg13, rM13, hS13, hW13, HY, Lib.hid (fun h => absurd h HZ.out), hx13⟩
              case measure => simp [intOf]; omega
          · obtain rfl : k = ws.length := by omega
            have HMs : Hid (marksO lb = some ms) := Lib.hid (by rw [HO.out HZ.out, ← HM.out, List.take_length])
            obtain ⟨A2, c2, rfl, _, hM⟩ := rM.slc
            have hfit := marksO_fit HLb.out HMs.out
            have hml := hfit.1
            have HAm := Lib.hid hfit.2
            have HU := Lib.hid (HPu.out.trans (partU_yes HNs.out hl4 HMs.out))
            have b6 := b4.nx hxr
            have hxw6 := hx4.trans hxr
            obtain ⟨y0, y1, y2, y3, y4, y5⟩ := bg.d6
            clear hfit
            go_wp2_with fail
            refine (specSuperOK_c n0 n1 n2 n3 A5 A2 c5 c2 _ xs ms _ hS.row hM.row (Nat.le_refl _) (by have := HLen.out; omega) hml hc5 HAm.out).mono ?_
            rintro e w7 ⟨rfl, hnx7⟩
            have b7 := b6.nx hnx7
            have bs7 := bg.nx hnx7
            have hx7 := hxw6.trans hnx7
            have hS7 := hS.nx hnx7
            have hM7 := hM.nx hnx7
            clear y0 y1 y2 y3 y4 y5
            obtain ⟨y0, y1, y2, y3, y4, y5⟩ := bs7.d6
            cases hf : superB n0 n1 n2 n3 xs ms with
            | false =>
              have HF := Lib.hid (HU.out.trans (supOf_no (by rw [Hn0.out, Hn1.out, Hn2.out, Hn3.out, Hxs.out]; exact hf)))
              clear hf
              obtain ⟨u0, u1, u2, u3, u4, u5⟩ := b7.d6
              have f0 := b7.frozen 0
              have f1 := b7.frozen 1
              have f2 := b7.frozen 2
              have f3 := b7.frozen 3
              have f4 := b7.frozen 4
              have f5 := b7.frozen 5
              go_wp2
              have q := (put6_box b7 (.int .i64 0) (.int .i64 0) (.int .i64 0) (.int .i64 0) (.slice none 0 0) (.slice none 0 0))
              have hnf := (put6_nx hx7 (Nat.le_refl w.heap.size) (.int .i64 0) (.int .i64 0) (.int .i64 0) (.int .i64 0) (.slice none 0 0) (.slice none 0 0))
              change bodyPost _ _ _ _ _ (put6 w7 w.heap.size (.int .i64 0) (.int .i64 0) (.int .i64 0) (.int .i64 0) (.slice none 0 0) (.slice none 0 0))
              change Box (put6 w7 w.heap.size (.int .i64 0) (.int .i64 0) (.int .i64 0) (.int .i64 0) (.slice none 0 0) (.slice none 0 0)) _ _ _ at q
              generalize put6 w7 w.heap.size (.int .i64 0) (.int .i64 0) (.int .i64 0) (.int .i64 0) (.slice none 0 0) (.slice none 0 0) = Wf at *
              obtain ⟨g0, g1, g2, g3, g4, g5⟩ := q.d6
              exact bodyPost_ret (v := .tuple #[.agg #[.int .i64 0, .int .i64 0, .int .i64 0, .int .i64 0, .slice none 0 0, .slice none 0 0], .bool false]) (by simp [results, Tryz.results205, go_sem, g0, g1, g2, g3, g4, g5]) rfl (RetSU.no HF.out hnf)
            | true =>
              have HF := Lib.hid (HU.out.trans (supOf_yes (by rw [Hn0.out, Hn1.out, Hn2.out, Hn3.out, Hxs.out]; exact hf)))
              rw [Hn0.out, Hn1.out, Hn2.out, Hn3.out, Hxs.out] at HF
              clear hf
              have hgl : w.heap.size < w4.heap.size := b4.lt
              obtain ⟨u0, u1, u2, u3, u4, u5⟩ := b7.d6
              have f0 := b7.frozen 0
              have f1 := b7.frozen 1
              have f2 := b7.frozen 2
              have f3 := b7.frozen 3
              have f4 := b7.frozen 4
              have f5 := b7.frozen 5
              go_wp2
              have q := (put6_box b7 (.int .i64 n0) (.int .i64 n1) (.int .i64 n2) (.int .i64 n3) (.slice A5 xs.length c5) (.slice A2 ms.length c2))
              have hnf := (put6_nx hx7 (Nat.le_refl w.heap.size) (.int .i64 n0) (.int .i64 n1) (.int .i64 n2) (.int .i64 n3) (.slice A5 xs.length c5) (.slice A2 ms.length c2))
              have hsf := (hS7.pt6 hgl (.int .i64 n0) (.int .i64 n1) (.int .i64 n2) (.int .i64 n3) (.slice A5 xs.length c5) (.slice A2 ms.length c2))
              change Sl (put6 w7 w.heap.size (.int .i64 n0) (.int .i64 n1) (.int .i64 n2) (.int .i64 n3) (.slice A5 xs.length c5) (.slice A2 ms.length c2)) _ _ _ _ _ at hsf
              have hmf := (hM7.pt6 hgl (.int .i64 n0) (.int .i64 n1) (.int .i64 n2) (.int .i64 n3) (.slice A5 xs.length c5) (.slice A2 ms.length c2))
              change Sl (put6 w7 w.heap.size (.int .i64 n0) (.int .i64 n1) (.int .i64 n2) (.int .i64 n3) (.slice A5 xs.length c5) (.slice A2 ms.length c2)) _ _ _ _ _ at hmf
              change bodyPost _ _ _ _ _ (put6 w7 w.heap.size (.int .i64 n0) (.int .i64 n1) (.int .i64 n2) (.int .i64 n3) (.slice A5 xs.length c5) (.slice A2 ms.length c2))
              change Box (put6 w7 w.heap.size (.int .i64 n0) (.int .i64 n1) (.int .i64 n2) (.int .i64 n3) (.slice A5 xs.length c5) (.slice A2 ms.length c2)) _ _ _ at q
              generalize put6 w7 w.heap.size (.int .i64 n0) (.int .i64 n1) (.int .i64 n2) (.int .i64 n3) (.slice A5 xs.length c5) (.slice A2 ms.length c2) = Wf at *
              obtain ⟨g0, g1, g2, g3, g4, g5⟩ := q.d6
              exact bodyPost_ret (v := .tuple #[.agg #[.int .i64 n0, .int .i64 n1, .int .i64 n2, .int .i64 n3, .slice A5 xs.length c5, .slice A2 ms.length c2], .bool true]) (by simp [results, Tryz.results205, go_sem, g0, g1, g2, g3, g4, g5]) rfl (RetSU.yes HF.out hc5 (hsf.low (by omega)) (hmf.low (by omega)) hnf)
end Go.Proofs.YtehahodomfbpjaaGreatDoor
