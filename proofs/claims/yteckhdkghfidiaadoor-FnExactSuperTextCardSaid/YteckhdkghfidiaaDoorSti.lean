/-
  The program's text of a super: marksText, Super.text, SuperText.
  Conditions: the library's table of powers of ten holds them; what is read can be read.
-/
import Derived.Test.YteckhdkghfidiaaDoorStm
import Derived.Test.YteckhdkghfidiaaDoorShf
import Derived.Test.YteckhdkghfidiaaDoorPln
import Derived.Lib.AppendIntMem
namespace Go.Proofs.YteckhdkghfidiaaDoor
set_option linter.unusedVariables false
set_option maxRecDepth 100000
open Go.RowKit

/-- The library's table. -/
def Tab (w : World) : Prop := Lib.TabIs Tryd.prog w "internal/strconv.uint64pow10" .u64 Lib.pow10Tab
theorem Tab.nx {w w' : World} (h : Tab w) (hb : Nx w w') : Tab w' := by
  unfold Tab Lib.TabIs at h ⊢
  unfold World.var? at h ⊢
  cases hg : Tryd.prog.globalNamed "internal/strconv.uint64pow10" with
  | none => simp [hg] at h
  | some g =>
    simp only [hg, Option.bind_some] at h ⊢
    have hlt : g < w.heap.size := by
      rcases Nat.lt_or_ge g w.heap.size with h' | h'
      · exact h'
      · simp [Array.getElem?_eq_none h'] at h
    rw [hb.block g hlt]
    exact h
theorem digs_dec : ∀ n : Nat, Lib.decDigits n = digs n := by
  intro n
  induction n using Nat.strongRecOn with
  | _ n ih =>
    rw [Lib.decDigits, digs]
    by_cases h : n < 10
    · rw [dif_pos h, if_pos h]
    · rw [dif_neg h, if_neg h, ih (n / 10) (by omega)]
theorem itoa_digs (n : Nat) : Lib.itoa (n : Int) = digs n := by
  unfold Lib.itoa
  rw [if_neg (by omega), Int.toNat_natCast, digs_dec]
theorem itoa_c (n : Nat) (w : World) (hn : n ≤ 999999) (ht : Tab w) : Calls Tryd.prog 67 #[.int .i64 n] w fun e w' => e = .returned (.string ⟨(digs n).toArray⟩) ∧ Nx w w' := by
  refine (Any.strconv_Itoa Tryd.laysM171 (n : Int) (by omega) (by omega) w ht).mono ?_
  rintro e w' ⟨rfl, k, os, rfl⟩
  rw [itoa_digs]
  exact ⟨rfl, Lib.below_grow _ w (Nat.le_refl _) k os⟩
theorem join_c (A : Option Addr) (c lo : Nat) (ws : List ByteArray) (w : World) (h : Sl w lo A 9 ws.length (wdAt ws)) (hn : ws.length ≤ 4) (hc : ws.length ≤ c) (hw : ∀ k, (ws.getD k ByteArray.empty).size ≤ 13) :
    Calls Tryd.prog 68 #[.slice A ws.length c, .string ⟨#[44]⟩] w fun e w' => e = .returned (.string (jn ws)) ∧ Nx w w' := by
  rcases Nat.eq_zero_or_pos ws.length with hz | hp
  · have e0 : ws = [] := List.eq_nil_of_length_eq_zero hz
    subst e0
    refine (Any.strings_Join_none Tryd.lays156 Tryd.Builder_Extra_156 A c ⟨#[44]⟩ w).mono ?_
    rintro e w' ⟨rfl, rfl⟩
    exact ⟨rfl, Nx.refl _⟩
  · obtain ⟨g, rfl, _, ho⟩ := h hp
    have hj := jn_all hw
    refine (Any.strings_Join Tryd.lays156 Tryd.Builder_Extra_156 g 0 c ws ⟨#[44]⟩ w (fun j x hj => ?_) ho.lt (by omega) hc (by rw [ba_size] at hj; exact Nat.le_trans hj (by omega))).mono ?_
    · have hjl : j < ws.length := (List.getElem?_eq_some_iff.1 hj).1
      rw [Nat.zero_add, ho.cell hjl]
      unfold wdAt
      rw [List.getD_eq_getElem?_getD, hj]; rfl
    · rintro e w' ⟨rfl, hb⟩
      exact ⟨rfl, hb⟩
set_option maxHeartbeats 4000000 in
theorem marksText_c (A2 : Option Addr) (c2 B : Nat) (ms : List Mrk) (w : World) (h2 : Mks w B A2 ms) (hB : B ≤ w.heap.size) (hms : msB ms = true) (ht : Tab w) :
    Calls Tryd.prog 46 #[.slice A2 ms.length c2] w fun e w' => e = .returned (.string (jn (wds ms))) ∧ Nx w w' := by
  have HM := Lib.hid hms
  have HT := Lib.hid ht
  have hl4 : ms.length ≤ 4 := (msB_yes hms).1
  clear hms ht
  obtain ⟨i0, hi0, hz0, hz1, hz2⟩ := info_parts infoS
  have hmk := fun W => run_make_rowN (P := Tryd.prog) 64 9 i0 _ Tryd.underlying64 hi0 hz0 .i64 .i64 ms.length ms.length (Nat.le_refl _) (by rw [hz2]; omega) (by omega) W
  rw [hz1] at hmk
  have hmade := Own.made w #[Value.string ByteArray.empty] (ms.length * 1) 9
  rw [Nat.mul_one] at hmade
  go_enter Tryd.func46, Tryd.ntmps46
  go_wp2
  go_loopw [11] (fun i wr => ∃ k : Nat, k ≤ ms.length ∧ i = .int .i64 k ∧ Fill wr w.heap.size 9 ms.length k (wdAt (wds ms)) ∧ Nx w wr) (fun i _ => ms.length - (intOf i).toNat)
  case atStart => exact ⟨0, Nat.zero_le _, rfl, Fill.start hmade, (Nx.refl _).alloc _⟩
  case round =>
    obtain ⟨k, hk, rfl, hf, hnx⟩ := hrel
    by_cases hlt : k < ms.length
    · obtain ⟨bb, off, rfl, hb, k0, k1⟩ := (h2.below hnx hB).at_ hlt
      clear hmk hmade
      have hmq := msB_at HM.out hlt
      obtain ⟨⟨q0, q1'⟩, Hq'⟩ : ∃ q, Hid (ms.getD k mrZ = q) := ⟨_, rfl⟩
      rw [Hq'.out] at k0 k1 hmq
      obtain ⟨q1, Hq1⟩ : ∃ q : Nat, Hid (q1' = (q : Int)) := ⟨q1'.toNat, Lib.hid (by have := hmq.2.1; simp only at this; omega)⟩
      rw [Hq1.out] at k1 hmq Hq'
      obtain ⟨hs6, _, hq6⟩ := hmq
      simp only at k0 k1 hs6 hq6
      have Hq : Hid (ms.getD k mrZ = (q0, (q1 : Int))) := Hq'
      have hq7 : q1 ≤ 999999 := by omega
      have h61 : (⟨#[61]⟩ : ByteArray).size = 1 := rfl
      clear Hq1 hq6
      go_wp2_with fail
      have bq := Box.new wr 63 #[.string q0, .int .i64 q1]
      have hnxq := hnx.alloc (.cells #[.string q0, .int .i64 q1] 63)
      have hfq := hf.nx ((Nx.refl wr).alloc (.cells #[.string q0, .int .i64 q1] 63))
      generalize wr.alloc (.cells #[.string q0, .int .i64 q1] 63) = wq at *
      clear k0 k1
      have k0 := bq.c0
      have k1 := bq.c1
      refine wp_region_lex [false, false, false, false, false, false, false, true, false, false, true] (fun w' => w'.cell? ⟨wr.heap.size, 0, none⟩ = some (.string q0) ∧ w'.cell? ⟨wr.heap.size, 1, none⟩ = some (.int .i64 q1)) (by kernel_rfl) (by kernel_rfl) rfl (by kernel_rfl) (fun _ _ d _ _ h => by cases d <;> exact h) (by exact ⟨k0, k1⟩) ?_
      iterate 4 (refine HL.take (v := ?_) (by rfl) ?_ ?_; rotate_left; (· (intro w hSw; (try dsimp only at hSw); go_simp; try with_reducible rfl)); (try simp only [Act.put, List.setIfInBounds_toArray, List.set_cons_zero, List.set_cons_succ]))
      refine HL.take (v := .string (q0 ++ ⟨#[61]⟩)) (by rfl) (fun W _ => addS_run rfl rfl rfl (by omega)) ?_
      try simp only [Act.put, List.setIfInBounds_toArray, List.set_cons_zero, List.set_cons_succ]
      iterate 2 (refine HL.take (v := ?_) (by rfl) ?_ ?_; rotate_left; (· (intro w hSw; (try dsimp only at hSw); go_simp; try with_reducible rfl)); (try simp only [Act.put, List.setIfInBounds_toArray, List.set_cons_zero, List.set_cons_succ]))
      refine HL.call (by rfl) (fun K hK => ?_)
      go_simp
      refine (itoa_c q1 _ hq7 (HT.out.nx hnxq.drew)).mono ?_
      rintro e wd ⟨rfl, hnd⟩
      have hxd := hnxq.trans (Nx.drew_r hnd)
      have bd := bq.nx (Nx.drew_r hnd)
      have hfd := hfq.nx (Nx.drew_r hnd)
      have HW := Lib.hid (mkW_of q0 q1)
      obtain ⟨d, Hd⟩ : ∃ d : ByteArray, Hid ((⟨(digs q1).toArray⟩ : ByteArray) = d) := ⟨_, rfl⟩
      have hd6 : d.size ≤ 6 := by rw [← Hd.out]; have := (digs_len hq7).2; simp [ByteArray.size]; omega
      rw [Hd.out] at HW ⊢
      go_wp2_with fail
      refine hK.out _ _ (by exact ⟨bd.c0, bd.c1⟩) ?_
      clear hK K
      try simp only [Act.put, List.setIfInBounds_toArray, List.set_cons_zero, List.set_cons_succ]
      refine HL.take (v := .string ((q0 ++ ⟨#[61]⟩) ++ d)) (by rfl) (fun W _ => addS_run rfl rfl rfl (by rw [ByteArray.size_append]; omega)) ?_
      try simp only [Act.put, List.setIfInBounds_toArray, List.set_cons_zero, List.set_cons_succ]
      rw [HW.out]
      iterate 1 (refine HL.take (v := ?_) (by rfl) ?_ ?_; rotate_left; (· (intro w hSw; (try dsimp only at hSw); go_simp; try with_reducible rfl)); (try simp only [Act.put, List.setIfInBounds_toArray, List.set_cons_zero, List.set_cons_succ]))
      have hne : w.heap.size ≠ wr.heap.size := by have := hf.lt; omega
      obtain ⟨v0, hv0⟩ := hfd.some_ hlt
      have hfz := hfd.frozen k
      have hst := hfd.step (v := .string (mkW (q0, (q1 : Int)))) hlt (by unfold wdAt; rw [wds_at hlt, Hq.out])
      have hxs := hxd.setCell (p := ⟨w.heap.size, k, none⟩) (Nat.le_refl _) (.string (mkW (q0, (q1 : Int))))
      have bs := bd.far (p := ⟨w.heap.size, k, none⟩) (Ne.symm hne) (.string (mkW (q0, (q1 : Int))))
      refine HL.call (by rfl) (fun K hK => ?_)
      go_simp
      refine hK.out _ _ (by exact ⟨bs.c0, bs.c1⟩) ?_
      clear hK K
      try simp only [Act.put, List.setIfInBounds_toArray, List.set_cons_zero, List.set_cons_succ]
      refine HL.done ?_
      go_wp2
      go_roundw
      case rel => exact ⟨k + 1, by omega, by go_num, hst, hxs⟩
      case measure => simp [intOf]; omega
    · obtain rfl : k = ms.length := by omega
      have hS : Sl wr w.heap.size (some ⟨w.heap.size, 0, none⟩) 9 (wds ms).length (wdAt (wds ms)) := by rw [wds_len]; exact Sl.own hf.done (Nat.le_refl _)
      have Hwl := Lib.hid (wds_len ms)
      clear hmk hmade
      go_wp2_with fail
      have hjc := join_c (some ⟨w.heap.size, 0, none⟩) ms.length w.heap.size (wds ms) wr hS (by rw [wds_len]; exact hl4) (by rw [wds_len]; omega) (wds_size HM.out)
      rw [wds_len] at hjc
      refine hjc.mono ?_
      rintro e w4 ⟨rfl, hnx4⟩
      go_wp2
      go_ret
      exact ⟨rfl, hnx.trans hnx4⟩
set_option maxHeartbeats 4000000 in
theorem superText_c (g b p t : Int) (A A2 : Option Addr) (c c2 B : Nat) (xs : List Int) (ms : List Mrk) (w : World) (h : Ins w B A xs) (h2 : Mks w B A2 ms) (hB : B ≤ w.heap.size) (hok : superB g b p t xs ms = true) (ht : Tab w) :
    Calls Tryd.prog 21 #[.agg #[.int .i64 g, .int .i64 b, .int .i64 p, .int .i64 t, .slice A xs.length c, .slice A2 ms.length c2]] w fun e w' => e = .returned (.string (sealS (numsS (supN g b p t xs) ++ ⟨#[124]⟩ ++ jn (wds ms)))) ∧ Nx w w' := by
  have HK := Lib.hid hok
  have HT := Lib.hid ht
  have hl4 : ms.length ≤ 4 := (msB_yes (superB_yes hok).2.2.2.2.2).1
  have hl20 : xs.length ≤ 20 := (tbB_yes (superB_yes hok).2.2.2.2.1).1
  have HM := Lib.hid (superB_yes hok).2.2.2.2.2
  clear hok ht
  go_enter Tryd.func21, Tryd.ntmps21
  have b0 := Box.new w 31 #[.int .i64 g, .int .i64 b, .int .i64 p, .int .i64 t, .slice A xs.length c, .slice A2 ms.length c2]
  have hx0 := (Nx.refl w).alloc (.cells #[.int .i64 g, .int .i64 b, .int .i64 p, .int .i64 t, .slice A xs.length c, .slice A2 ms.length c2] 31)
  have b1 := b0.alloc (.cells #[.int .i64 g, .int .i64 b, .int .i64 p, .int .i64 t] 3)
  have hx1 := hx0.alloc (.cells #[.int .i64 g, .int .i64 b, .int .i64 p, .int .i64 t] 3)
  have hR1 := RowI.new4 (w.alloc (.cells #[.int .i64 g, .int .i64 b, .int .i64 p, .int .i64 t, .slice A xs.length c, .slice A2 ms.length c2] 31)) (B := w.heap.size) g b p t (by simp)
  simp only [World.size_alloc] at hR1
  have HX1 := Lib.hid hx1
  have HB1 := Lib.hid b1
  have HR1 := Lib.hid hR1
  clear hx1 b1 hR1 hx0 b0
  go_wp2_with (at_builtin; refine wpList_app4I rfl _ _ rfl w.heap.size (w.heap.size + 1) A c [g, b, p, t] xs rfl rfl rfl HR1.out (h.below HX1.out hB) (by omega) HX1.out.size ?_)
  intro A' k' w2 hR2' hG2
  have hx2 := hG2.nx w HX1.out (Nat.le_refl _)
  have b2 := hG2.box _ _ _ (by decide) HB1.out
  clear HX1 HB1 HR1 hG2
  have hR2 : RowI w2 w.heap.size (.slice A' (xs.length + 4) k') (supL g b p t xs) := hR2'
  clear hR2'
  obtain ⟨A5, c5', he5, hS5⟩ := hR2.sl
  clear hR2
  rw [supL_len] at he5 hS5
  injection he5 with e5 _ e6
  subst e5 e6
  have hrow := supN_row HK.out (supN_len g b p t xs).symm hS5.row
  have Hl := Lib.hid (supN_len g b p t xs)
  rw [← Hl.out]
  go_wp2_with fail
  obtain ⟨nS, HnS⟩ : ∃ s, Hid (numsS (supN g b p t xs) = s) := ⟨_, rfl⟩
  obtain ⟨jS, HjS⟩ : ∃ s, Hid (jn (wds ms) = s) := ⟨_, rfl⟩
  have hns : nS.size ≤ 144 := by rw [← HnS.out, numsS_size, Hl.out]; omega
  have hjs : jS.size ≤ 56 := by rw [← HjS.out]; have := jn_all (wds_size HM.out); rw [wds_len] at this; omega
  have h124 : (⟨#[124]⟩ : ByteArray).size = 1 := rfl
  have k5 := b2.d6.2.2.2.2.2
  refine wp_region_plan (.t 0 (.t 3 (.t 4 (.c 1 (.t 2 (.c 5 (.t 6 (.c 7 (.t 8 .e))))))))) (fun w' => w'.cell? ⟨w.heap.size, 5, none⟩ = some (.slice A2 ms.length c2)) (by kernel_rfl) (by kernel_rfl) rfl (by kernel_rfl) (fun _ _ d _ _ h => by cases d <;> exact h) (by exact k5) ?_
  simp only [psOf, List.getD_cons_zero, List.getD_cons_succ]
  iterate 3 (refine HP.take (v := ?_) (by rfl) ?_ ?_; rotate_left; (· (intro w hSw; (try dsimp only at hSw); go_simp; try with_reducible rfl)); (try simp only [Act.put, List.setIfInBounds_toArray, List.set_cons_zero, List.set_cons_succ]))
  refine HP.call ?_
  refine CallStep.mk (by rfl) (fun K hK => ?_)
  go_simp
  refine (numbersText_c A' _ _ (supN g b p t xs) _ (hrow.below (Nx.refl w2).drew (Nat.le_refl _)) (Nat.le_refl _) (supN_all HK.out) (by have := Hl.out; omega) (by have := Hl.out; omega)).mono ?_
  rintro e w3 ⟨he, hnx3⟩
  have he' := he.trans (ret_str HnS.out)
  subst he'
  clear he
  have b3 := b2.nx (Nx.drew_r hnx3)
  have hx3 := hx2.trans (Nx.drew_r hnx3)
  go_wp2_with fail
  refine hK.out _ _ (by exact b3.d6.2.2.2.2.2) ?_
  clear hK K
  try simp only [Act.put, List.setIfInBounds_toArray, List.set_cons_zero, List.set_cons_succ]
  refine HP.take (v := .string (nS ++ ⟨#[124]⟩)) (by rfl) (fun W _ => addS_run rfl rfl rfl (by omega)) ?_
  try simp only [Act.put, List.setIfInBounds_toArray, List.set_cons_zero, List.set_cons_succ]
  refine HP.call ?_
  refine CallStep.mk (by rfl) (fun K hK => ?_)
  go_simp
  refine (marksText_c A2 c2 B ms _ (h2.below hx3 hB) (Nat.le_trans hB hx3.size) HM.out (HT.out.nx hx3)).mono ?_
  rintro e w4 ⟨he, hnx4⟩
  have he' := he.trans (ret_str HjS.out)
  subst he'
  clear he
  have b4 := b3.nx hnx4
  have hx4 := hx3.trans hnx4
  go_wp2_with fail
  refine hK.out _ _ (by exact b4.d6.2.2.2.2.2) ?_
  clear hK K
  try simp only [Act.put, List.setIfInBounds_toArray, List.set_cons_zero, List.set_cons_succ]
  refine HP.take (v := .string (nS ++ ⟨#[124]⟩ ++ jS)) (by rfl) (fun W _ => addS_run rfl rfl rfl (by rw [ByteArray.size_append]; omega)) ?_
  try simp only [Act.put, List.setIfInBounds_toArray, List.set_cons_zero, List.set_cons_succ]
  refine HP.call ?_
  refine CallStep.mk (by rfl) (fun K hK => ?_)
  go_simp
  have HZ := Lib.hid (show sealS (nS ++ ⟨#[124]⟩ ++ jS) = sealS (numsS (supN g b p t xs) ++ ⟨#[124]⟩ ++ jn (wds ms)) by rw [HnS.out, HjS.out])
  refine (sealed_c _ _ (by rw [ByteArray.size_append, ByteArray.size_append]; omega)).mono ?_
  rintro e w5 ⟨he, hnx5⟩
  have he' := he.trans (ret_str HZ.out)
  subst he'
  clear he
  have b5 := b4.nx hnx5
  have hx5 := hx4.trans hnx5
  go_wp2_with fail
  refine hK.out _ _ (by exact b5.d6.2.2.2.2.2) ?_
  clear hK K
  try simp only [Act.put, List.setIfInBounds_toArray, List.set_cons_zero, List.set_cons_succ]
  iterate 1 (refine HP.take (v := ?_) (by rfl) ?_ ?_; rotate_left; (· (intro w hSw; (try dsimp only at hSw); go_simp; try with_reducible rfl)); (try simp only [Act.put, List.setIfInBounds_toArray, List.set_cons_zero, List.set_cons_succ]))
  refine HP.done ?_
  go_wp2
  go_ret
  exact ⟨rfl, hx5⟩
set_option maxHeartbeats 2000000 in
theorem implSuperText_c (g b p t : Int) (A A2 : Option Addr) (c c2 B : Nat) (xs : List Int) (ms : List Mrk) (w : World) (h : Ins w B A xs) (h2 : Mks w B A2 ms) (hB : B ≤ w.heap.size) (hn : xs.length ≤ 1048576) (hn2 : ms.length ≤ 1048576) (hc : xs.length ≤ c) (hm : AllM ms) (ht : Tab w) :
    Calls Tryd.prog 8 #[.agg #[.int .i64 g, .int .i64 b, .int .i64 p, .int .i64 t, .slice A xs.length c, .slice A2 ms.length c2]] w fun e w' => e = .returned (.tuple #[.string (supS g b p t xs ms), .int .i64 (codeB (superB g b p t xs ms) 1)]) ∧ Nx w w' := by
  cases hf : superB g b p t xs ms with
  | false =>
    have HF := Lib.hid hf
    have HS := Lib.hid (show (⟨#[]⟩ : ByteArray) = supS g b p t xs ms by unfold supS; rw [hf]; rfl)
    clear hf
    have hx0 := (Nx.refl w).alloc (.cells #[.int .i64 g, .int .i64 b, .int .i64 p, .int .i64 t, .slice A xs.length c, .slice A2 ms.length c2] 31)
    go_enter Tryd.func8, Tryd.ntmps8
    go_wp2_with fail
    refine (superRight_c g b p t A A2 c c2 B xs ms _ (h.below hx0 hB) (h2.below hx0 hB) (Nat.le_trans hB hx0.size) hn hn2 hc hm).mono ?_
    rintro e w1 ⟨rfl, hnx1⟩
    rw [HF.out]
    go_wp2
    go_ret2
    exact ⟨ret_tup HS.out rfl, hx0.trans hnx1⟩
  | true =>
    have HF := Lib.hid hf
    have HS := Lib.hid (show sealS (numsS (supN g b p t xs) ++ ⟨#[124]⟩ ++ jn (wds ms)) = supS g b p t xs ms by unfold supS; rw [hf]; rfl)
    clear hf
    go_enter Tryd.func8, Tryd.ntmps8
    go_wp2_with fail
    have b0 := Box.new w 31 #[.int .i64 g, .int .i64 b, .int .i64 p, .int .i64 t, .slice A xs.length c, .slice A2 ms.length c2]
    have hx0 := (Nx.refl w).alloc (.cells #[.int .i64 g, .int .i64 b, .int .i64 p, .int .i64 t, .slice A xs.length c, .slice A2 ms.length c2] 31)
    generalize w.alloc (.cells #[.int .i64 g, .int .i64 b, .int .i64 p, .int .i64 t, .slice A xs.length c, .slice A2 ms.length c2] 31) = W at *
    refine (superRight_c g b p t A A2 c c2 B xs ms _ (h.below hx0 hB) (h2.below hx0 hB) (Nat.le_trans hB hx0.size) hn hn2 hc hm).mono ?_
    rintro e w1 ⟨rfl, hnx1⟩
    rw [HF.out]
    obtain ⟨c0, c1, c2, c3, c4, c5⟩ := (b0.nx hnx1).d6
    have hx1 := hx0.trans hnx1
    go_wp2_with fail
    refine (superText_c g b p t A A2 _ _ B xs ms _ (h.below hx1 hB) (h2.below hx1 hB) (Nat.le_trans hB hx1.size) HF.out (ht.nx hx1)).mono ?_
    rintro e w2 ⟨he, hnx2⟩
    have he2 := he.trans (ret_str HS.out)
    subst he2
    clear he
    have hxz := hx1.trans hnx2
    go_wp2
    go_ret2
    exact ⟨rfl, hxz⟩
end Go.Proofs.YteckhdkghfidiaaDoor
