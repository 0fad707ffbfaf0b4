/-
  Texts of the proof, put together in their order: Sti, Fmk, Fmi, Lfv, Dlb.
  Conditions: those of each.
-/
import Derived.Test.YtehahodomfbpjaaDoorMf6
import Derived.Lib.AppendIntMem
import Derived.Test.YtehahodomfbpjaaDoorRows
import Derived.ProofKit
import Derived.LaidMore
import Derived.OpenShut
import Derived.OpenVars
import Derived.Stop.Joined
import Derived.Stop.LaidErr
import Derived.LaidLaws
import Derived.Lib.LaidTab
import Derived.ShutString
import Derived.ChangeOld
import Derived.Below
/- The program's text of a super: marksText, Super.text, SuperText. Conditions: the library's table of powers of ten holds them; what is read can be read. -/
namespace Go.Proofs.YtehahodomfbpjaaDoor
set_option linter.unusedVariables false
set_option maxRecDepth 100000
open Go.RowKit

/-- The library's table. -/
def Tab (w : World) : Prop := Lib.TabIs Tryd.prog w "internal/strconv.uint64pow10" .u64 Lib.pow10Tab
theorem Tab.nx {w w' : World} (h : Tab w) (hb : Nx w w') : Tab w' := by
  unfold Tab Lib.TabIs at h ⊢
  unfold World.var? at h ⊢
  cases hg : Tryd.prog.globalNamed "internal/strconv.uint64pow10" with
  | none => simp [hg] at h
  | some g =>
    simp only [hg, Option.bind_some] at h ⊢
    have hlt : g < w.heap.size := by
      rcases Nat.lt_or_ge g w.heap.size with h' | h'
      · exact h'
      · simp [Array.getElem?_eq_none h'] at h
    rw [hb.block g hlt]
    exact h
theorem digs_dec : ∀ n : Nat, Lib.decDigits n = digs n := by
  intro n
  induction n using Nat.strongRecOn with
  | _ n ih =>
    rw [Lib.decDigits, digs]
    by_cases h : n < 10
    · rw [dif_pos h, if_pos h]
    · rw [dif_neg h, if_neg h, ih (n / 10) (by omega)]
theorem itoa_digs (n : Nat) : Lib.itoa (n : Int) = digs n := by
  unfold Lib.itoa
  rw [if_neg (by omega), Int.toNat_natCast, digs_dec]
theorem itoa_c (n : Nat) (w : World) (hn : n ≤ 999999) (ht : Tab w) : Calls Tryd.prog 81 #[.int .i64 n] w fun e w' => e = .returned (.string ⟨(digs n).toArray⟩) ∧ Nx w w' := by
  refine (Any.strconv_Itoa Tryd.laysM171 (n : Int) (by omega) (by omega) w ht).mono ?_
  rintro e w' ⟨rfl, k, os, rfl⟩
  rw [itoa_digs]
  exact ⟨rfl, Lib.below_grow _ w (Nat.le_refl _) k os⟩
theorem join_c (A : Option Addr) (c lo : Nat) (ws : List ByteArray) (w : World) (h : Sl w lo A 9 ws.length (wdAt ws)) (hn : ws.length ≤ 4) (hc : ws.length ≤ c) (hw : ∀ k, (ws.getD k ByteArray.empty).size ≤ 13) :
    Calls Tryd.prog 82 #[.slice A ws.length c, .string ⟨#[44]⟩] w fun e w' => e = .returned (.string (jn ws)) ∧ Nx w w' := by
  rcases Nat.eq_zero_or_pos ws.length with hz | hp
  · have e0 : ws = [] := List.eq_nil_of_length_eq_zero hz
    subst e0
    refine (Any.strings_Join_none Tryd.lays156 Tryd.Builder_Extra_156 A c ⟨#[44]⟩ w).mono ?_
    rintro e w' ⟨rfl, rfl⟩
    exact ⟨rfl, Nx.refl _⟩
  · obtain ⟨g, rfl, _, ho⟩ := h hp
    have hj := jn_all hw
    refine (Any.strings_Join Tryd.lays156 Tryd.Builder_Extra_156 g 0 c ws ⟨#[44]⟩ w (fun j x hj => ?_) ho.lt (by omega) hc (by rw [ba_size] at hj; exact Nat.le_trans hj (by omega))).mono ?_
    · have hjl : j < ws.length := (List.getElem?_eq_some_iff.1 hj).1
      rw [Nat.zero_add, ho.cell hjl]
      unfold wdAt
      rw [List.getD_eq_getElem?_getD, hj]; rfl
    · rintro e w' ⟨rfl, hb⟩
      exact ⟨rfl, hb⟩
set_option maxHeartbeats 4000000 in
theorem marksText_c (A2 : Option Addr) (c2 B : Nat) (ms : List Mrk) (w : World) (h2 : Mks w B A2 ms) (hB : B ≤ w.heap.size) (hms : msB ms = true) (ht : Tab w) :
    Calls Tryd.prog 61 #[.slice A2 ms.length c2] w fun e w' => e = .returned (.string (jn (wds ms))) ∧ Nx w w' := by
  have HM := Lib.hid hms
  have HT := Lib.hid ht
  have hl4 : ms.length ≤ 4 := (msB_yes hms).1
  clear hms ht
  obtain ⟨i0, hi0, hz0, hz1, hz2⟩ := info_parts infoS
  have hmk := fun W => run_make_rowN (P := Tryd.prog) 23 9 i0 _ Tryd.underlying23 hi0 hz0 .i64 .i64 ms.length ms.length (Nat.le_refl _) (by rw [hz2]; omega) (by omega) W
  rw [hz1] at hmk
  have hmade := Own.made w #[Value.string ByteArray.empty] (ms.length * 1) 9
  rw [Nat.mul_one] at hmade
  go_enter Tryd.func61, Tryd.ntmps61
  go_wp2
  go_loopw [11] (fun i wr => ∃ k : Nat, k ≤ ms.length ∧ i = .int .i64 k ∧ Fill wr w.heap.size 9 ms.length k (wdAt (wds ms)) ∧ Nx w wr) (fun i _ => ms.length - (intOf i).toNat)
  case atStart => exact ⟨0, Nat.zero_le _, rfl, Fill.start hmade, (Nx.refl _).alloc _⟩
  case round =>
    obtain ⟨k, hk, rfl, hf, hnx⟩ := hrel
    by_cases hlt : k < ms.length
    · obtain ⟨bb, off, rfl, hb, k0, k1⟩ := (h2.below hnx hB).at_ hlt
      clear hmk hmade
      have hmq := msB_at HM.out hlt
      obtain ⟨⟨q0, q1'⟩, Hq'⟩ : ∃ q, Hid (ms.getD k mrZ = q) := ⟨_, rfl⟩
      rw [Hq'.out] at k0 k1 hmq
      obtain ⟨q1, Hq1⟩ : ∃ q : Nat, Hid (q1' = (q : Int)) := ⟨q1'.toNat, Lib.hid (by have := hmq.2.1; simp only at this; omega)⟩
      rw [Hq1.out] at k1 hmq Hq'
      obtain ⟨hs6, _, hq6⟩ := hmq
      simp only at k0 k1 hs6 hq6
      have Hq : Hid (ms.getD k mrZ = (q0, (q1 : Int))) := Hq'
      have hq7 : q1 ≤ 999999 := by omega
      have h61 : (⟨#[61]⟩ : ByteArray).size = 1 := rfl
      clear Hq1 hq6
      go_wp2_with fail
      have bq := Box.new wr 110 #[.string q0, .int .i64 q1]
      have hnxq := hnx.alloc (.cells #[.string q0, .int .i64 q1] 110)
      have hfq := hf.nx ((Nx.refl wr).alloc (.cells #[.string q0, .int .i64 q1] 110))
      generalize wr.alloc (.cells #[.string q0, .int .i64 q1] 110) = wq at *
      clear k0 k1
      have k0 := bq.c0
      have k1 := bq.c1
      refine wp_region_lex [false, false, false, false, false, false, false, true, false, false, true] (fun w' => w'.cell? ⟨wr.heap.size, 0, none⟩ = some (.string q0) ∧ w'.cell? ⟨wr.heap.size, 1, none⟩ = some (.int .i64 q1)) (by kernel_rfl) (by kernel_rfl) rfl (by kernel_rfl) (fun _ _ d _ _ h => by cases d <;> exact h) (by exact ⟨k0, k1⟩) ?_
      iterate 4 (refine HL.take (v := ?_) (by rfl) ?_ ?_; rotate_left; (· (intro w hSw; (try dsimp only at hSw); go_simp; try with_reducible rfl)); (try simp only [Act.put, List.setIfInBounds_toArray, List.set_cons_zero, List.set_cons_succ]))
      refine HL.take (v := .string (q0 ++ ⟨#[61]⟩)) (by rfl) (fun W _ => addS_run rfl rfl rfl (by omega)) ?_
      try simp only [Act.put, List.setIfInBounds_toArray, List.set_cons_zero, List.set_cons_succ]
      iterate 2 (refine HL.take (v := ?_) (by rfl) ?_ ?_; rotate_left; (· (intro w hSw; (try dsimp only at hSw); go_simp; try with_reducible rfl)); (try simp only [Act.put, List.setIfInBounds_toArray, List.set_cons_zero, List.set_cons_succ]))
      refine HL.call (by rfl) (fun K hK => ?_)
      go_simp
      refine (itoa_c q1 _ hq7 (HT.out.nx hnxq.drew)).mono ?_
      rintro e wd ⟨rfl, hnd⟩
      have hxd := hnxq.trans (Nx.drew_r hnd)
      have bd := bq.nx (Nx.drew_r hnd)
      have hfd := hfq.nx (Nx.drew_r hnd)
      have HW := Lib.hid (mkW_of q0 q1)
      obtain ⟨d, Hd⟩ : ∃ d : ByteArray, Hid ((⟨(digs q1).toArray⟩ : ByteArray) = d) := ⟨_, rfl⟩
      have hd6 : d.size ≤ 6 := by rw [← Hd.out]; have := (digs_len hq7).2; simp [ByteArray.size]; omega
      rw [Hd.out] at HW ⊢
      go_wp2_with fail
      refine hK.out _ _ (by exact ⟨bd.c0, bd.c1⟩) ?_
      clear hK K
      try simp only [Act.put, List.setIfInBounds_toArray, List.set_cons_zero, List.set_cons_succ]
      refine HL.take (v := .string ((q0 ++ ⟨#[61]⟩) ++ d)) (by rfl) (fun W _ => addS_run rfl rfl rfl (by rw [ByteArray.size_append]; omega)) ?_
      try simp only [Act.put, List.setIfInBounds_toArray, List.set_cons_zero, List.set_cons_succ]
      rw [HW.out]
      iterate 1 (refine HL.take (v := ?_) (by rfl) ?_ ?_; rotate_left; (· (intro w hSw; (try dsimp only at hSw); go_simp; try with_reducible rfl)); (try simp only [Act.put, List.setIfInBounds_toArray, List.set_cons_zero, List.set_cons_succ]))
      have hne : w.heap.size ≠ wr.heap.size := by have := hf.lt; omega
      obtain ⟨v0, hv0⟩ := hfd.some_ hlt
      have hfz := hfd.frozen k
      have hst := hfd.step (v := .string (mkW (q0, (q1 : Int)))) hlt (by unfold wdAt; rw [wds_at hlt, Hq.out])
      have hxs := hxd.setCell (p := ⟨w.heap.size, k, none⟩) (Nat.le_refl _) (.string (mkW (q0, (q1 : Int))))
      have bs := bd.far (p := ⟨w.heap.size, k, none⟩) (Ne.symm hne) (.string (mkW (q0, (q1 : Int))))
      refine HL.call (by rfl) (fun K hK => ?_)
      go_simp
      refine hK.out _ _ (by exact ⟨bs.c0, bs.c1⟩) ?_
      clear hK K
      try simp only [Act.put, List.setIfInBounds_toArray, List.set_cons_zero, List.set_cons_succ]
      refine HL.done ?_
      go_wp2
      go_roundw
      case rel => exact ⟨k + 1, by omega, by go_num, hst, hxs⟩
      case measure => simp [intOf]; omega
    · obtain rfl : k = ms.length := by omega
      have hS : Sl wr w.heap.size (some ⟨w.heap.size, 0, none⟩) 9 (wds ms).length (wdAt (wds ms)) := by rw [wds_len]; exact Sl.own hf.done (Nat.le_refl _)
      have Hwl := Lib.hid (wds_len ms)
      clear hmk hmade
      go_wp2_with fail
      have hjc := join_c (some ⟨w.heap.size, 0, none⟩) ms.length w.heap.size (wds ms) wr hS (by rw [wds_len]; exact hl4) (by rw [wds_len]; omega) (wds_size HM.out)
      rw [wds_len] at hjc
      refine hjc.mono ?_
      rintro e w4 ⟨rfl, hnx4⟩
      go_wp2
      go_ret
      exact ⟨rfl, hnx.trans hnx4⟩
set_option maxHeartbeats 4000000 in
theorem superText_c (g b p t : Int) (A A2 : Option Addr) (c c2 B : Nat) (xs : List Int) (ms : List Mrk) (w : World) (h : Ins w B A xs) (h2 : Mks w B A2 ms) (hB : B ≤ w.heap.size) (hok : superB g b p t xs ms = true) (ht : Tab w) :
    Calls Tryd.prog 33 #[.agg #[.int .i64 g, .int .i64 b, .int .i64 p, .int .i64 t, .slice A xs.length c, .slice A2 ms.length c2]] w fun e w' => e = .returned (.string (sealS (numsS (supN g b p t xs) ++ ⟨#[124]⟩ ++ jn (wds ms)))) ∧ Nx w w' := by
  have HK := Lib.hid hok
  have HT := Lib.hid ht
  have hl4 : ms.length ≤ 4 := (msB_yes (superB_yes hok).2.2.2.2.2).1
  have hl20 : xs.length ≤ 20 := (tbB_yes (superB_yes hok).2.2.2.2.1).1
  have HM := Lib.hid (superB_yes hok).2.2.2.2.2
  clear hok ht
  go_enter Tryd.func33, Tryd.ntmps33
  have b0 := Box.new w 62 #[.int .i64 g, .int .i64 b, .int .i64 p, .int .i64 t, .slice A xs.length c, .slice A2 ms.length c2]
  have hx0 := (Nx.refl w).alloc (.cells #[.int .i64 g, .int .i64 b, .int .i64 p, .int .i64 t, .slice A xs.length c, .slice A2 ms.length c2] 62)
  have b1 := b0.alloc (.cells #[.int .i64 g, .int .i64 b, .int .i64 p, .int .i64 t] 3)
  have hx1 := hx0.alloc (.cells #[.int .i64 g, .int .i64 b, .int .i64 p, .int .i64 t] 3)
  have hR1 := RowI.new4 (w.alloc (.cells #[.int .i64 g, .int .i64 b, .int .i64 p, .int .i64 t, .slice A xs.length c, .slice A2 ms.length c2] 62)) (B := w.heap.size) g b p t (by simp)
  simp only [World.size_alloc] at hR1
  have HX1 := Lib.hid hx1
  have HB1 := Lib.hid b1
  have HR1 := Lib.hid hR1
  clear hx1 b1 hR1 hx0 b0
  go_wp2_with (at_builtin; refine wpList_app4I rfl _ _ rfl w.heap.size (w.heap.size + 1) A c [g, b, p, t] xs rfl rfl rfl HR1.out (h.below HX1.out hB) (by omega) HX1.out.size ?_)
  intro A' k' w2 hR2' hG2
  have hx2 := hG2.nx w HX1.out (Nat.le_refl _)
  have b2 := hG2.box _ _ _ (by decide) HB1.out
  clear HX1 HB1 HR1 hG2
  have hR2 : RowI w2 w.heap.size (.slice A' (xs.length + 4) k') (supL g b p t xs) := hR2'
  clear hR2'
  obtain ⟨A5, c5', he5, hS5⟩ := hR2.sl
  clear hR2
  rw [supL_len] at he5 hS5
  injection he5 with e5 _ e6
  subst e5 e6
  have hrow := supN_row HK.out (supN_len g b p t xs).symm hS5.row
  have Hl := Lib.hid (supN_len g b p t xs)
  rw [← Hl.out]
  go_wp2_with fail
  obtain ⟨nS, HnS⟩ : ∃ s, Hid (numsS (supN g b p t xs) = s) := ⟨_, rfl⟩
  obtain ⟨jS, HjS⟩ : ∃ s, Hid (jn (wds ms) = s) := ⟨_, rfl⟩
  have hns : nS.size ≤ 144 := by rw [← HnS.out, numsS_size, Hl.out]; omega
  have hjs : jS.size ≤ 56 := by rw [← HjS.out]; have := jn_all (wds_size HM.out); rw [wds_len] at this; omega
  have h124 : (⟨#[124]⟩ : ByteArray).size = 1 := rfl
  have k5 := b2.d6.2.2.2.2.2
  refine wp_region_plan (.t 0 (.t 3 (.t 4 (.c 1 (.t 2 (.c 5 (.t 6 (.c 7 (.t 8 .e))))))))) (fun w' => w'.cell? ⟨w.heap.size, 5, none⟩ = some (.slice A2 ms.length c2)) (by kernel_rfl) (by kernel_rfl) rfl (by kernel_rfl) (fun _ _ d _ _ h => by cases d <;> exact h) (by exact k5) ?_
  simp only [psOf, List.getD_cons_zero, List.getD_cons_succ]
  iterate 3 (refine HP.take (v := ?_) (by rfl) ?_ ?_; rotate_left; (· (intro w hSw; (try dsimp only at hSw); go_simp; try with_reducible rfl)); (try simp only [Act.put, List.setIfInBounds_toArray, List.set_cons_zero, List.set_cons_succ]))
  refine HP.call ?_
  refine CallStep.mk (by rfl) (fun K hK => ?_)
  go_simp
  refine (numbersText_c A' _ _ (supN g b p t xs) _ (hrow.below (Nx.refl w2).drew (Nat.le_refl _)) (Nat.le_refl _) (supN_all HK.out) (by have := Hl.out; omega) (by have := Hl.out; omega)).mono ?_
  rintro e w3 ⟨he, hnx3⟩
  have he' := he.trans (ret_str HnS.out)
  subst he'
  clear he
  have b3 := b2.nx (Nx.drew_r hnx3)
  have hx3 := hx2.trans (Nx.drew_r hnx3)
  go_wp2_with fail
  refine hK.out _ _ (by exact b3.d6.2.2.2.2.2) ?_
  clear hK K
  try simp only [Act.put, List.setIfInBounds_toArray, List.set_cons_zero, List.set_cons_succ]
  refine HP.take (v := .string (nS ++ ⟨#[124]⟩)) (by rfl) (fun W _ => addS_run rfl rfl rfl (by omega)) ?_
  try simp only [Act.put, List.setIfInBounds_toArray, List.set_cons_zero, List.set_cons_succ]
  refine HP.call ?_
  refine CallStep.mk (by rfl) (fun K hK => ?_)
  go_simp
  refine (marksText_c A2 c2 B ms _ (h2.below hx3 hB) (Nat.le_trans hB hx3.size) HM.out (HT.out.nx hx3)).mono ?_
  rintro e w4 ⟨he, hnx4⟩
  have he' := he.trans (ret_str HjS.out)
  subst he'
  clear he
  have b4 := b3.nx hnx4
  have hx4 := hx3.trans hnx4
  go_wp2_with fail
  refine hK.out _ _ (by exact b4.d6.2.2.2.2.2) ?_
  clear hK K
  try simp only [Act.put, List.setIfInBounds_toArray, List.set_cons_zero, List.set_cons_succ]
  refine HP.take (v := .string (nS ++ ⟨#[124]⟩ ++ jS)) (by rfl) (fun W _ => addS_run rfl rfl rfl (by rw [ByteArray.size_append]; omega)) ?_
  try simp only [Act.put, List.setIfInBounds_toArray, List.set_cons_zero, List.set_cons_succ]
  refine HP.call ?_
  refine CallStep.mk (by rfl) (fun K hK => ?_)
  go_simp
  have HZ := Lib.hid (show sealS (nS ++ ⟨#[124]⟩ ++ jS) = sealS (numsS (supN g b p t xs) ++ ⟨#[124]⟩ ++ jn (wds ms)) by rw [HnS.out, HjS.out])
  refine (sealed_c _ _ (by rw [ByteArray.size_append, ByteArray.size_append]; omega)).mono ?_
  rintro e w5 ⟨he, hnx5⟩
  have he' := he.trans (ret_str HZ.out)
  subst he'
  clear he
  have b5 := b4.nx hnx5
  have hx5 := hx4.trans hnx5
  go_wp2_with fail
  refine hK.out _ _ (by exact b5.d6.2.2.2.2.2) ?_
  clear hK K
  try simp only [Act.put, List.setIfInBounds_toArray, List.set_cons_zero, List.set_cons_succ]
  iterate 1 (refine HP.take (v := ?_) (by rfl) ?_ ?_; rotate_left; (· (intro w hSw; (try dsimp only at hSw); go_simp; try with_reducible rfl)); (try simp only [Act.put, List.setIfInBounds_toArray, List.set_cons_zero, List.set_cons_succ]))
  refine HP.done ?_
  go_wp2
  go_ret
  exact ⟨rfl, hx5⟩
end Go.Proofs.YtehahodomfbpjaaDoor
/- Contracts of the model's l05Format and FormatVault, and of the program's FormatVault. Conditions: the content can be read, and has at most 1048576 numbers; for the program: the library's table of powers of ten. -/
namespace Go.Proofs.YtehahodomfbpjaaDoor
set_option linter.unusedVariables false
set_option maxRecDepth 100000
open Go.RowKit

theorem mergeFm {G : Nat → Nat → World → Prop} {F : World → Prop} {R : Prop} (main : (∀ a b W, F W → G a b W) → R) (key : ∀ a b W, F W → G a b W) : R := main key
theorem pad6_size (q : Nat) : (⟨(pad 6 q).toArray⟩ : ByteArray).size = 6 := by rw [ba_size]; exact pad_len 6 q
set_option maxHeartbeats 4000000 in
theorem l05Format_c (A0 : Option Addr) (c0 B : Nat) (xs : List Int) (w : World) (h : Ins w B A0 xs) (hB : B ≤ w.heap.size) (hc : contB xs = true) :
    Calls Tryd.prog 30 #[.slice A0 xs.length c0] w (RetDisk w (fmT xs 8) []) := by
  have hx8 := (contB_yes hc).1
  have Hv := Lib.hid (contB_yes hc).2
  have h' : ∀ k, k < 8 → _ := fun k hk w' B' hw hB' => ((h.below (w' := w') (B' := B') hw hB').at_ (k := k) (by omega))
  obtain ⟨m, Hm⟩ : ∃ m, Hid (xs.length = m) := ⟨_, rfl⟩
  have hm8 : m = 8 := by have := Hm.out; omega
  rw [Hm.out]
  subst hm8
  clear hc h hx8
  have r0 := Box.new w 26 #[.slice none 0 0, .slice none 0 0]
  have hx0 := (Nx.refl w).alloc (.cells #[.slice none 0 0, .slice none 0 0] 26)
  have hl0 := r0.lt
  go_enter Tryd.func30, Tryd.ntmps30
  go_wp2_with fail
  generalize w.alloc (.cells #[.slice none 0 0, .slice none 0 0] 26) = W at *
  obtain ⟨gR, HgR⟩ : ∃ g, Hid (w.heap.size = g) := ⟨_, rfl⟩
  have hgR : w.heap.size ≤ gR := by have := HgR.out; omega
  rw [HgR.out] at r0 hl0 ⊢
  refine (specNewDisk_c W).mono ?_
  rintro e w1 ⟨A, n, c, A2, n2, c2, rfl, hS, hW, hk1⟩
  obtain rfl : 64 = n := noS_len.symm.trans hS.1
  obtain rfl : 0 = n2 := hW.1
  obtain ⟨gs, rfl, hgs, hrow⟩ := hS.2 (by omega)
  have hd := (Nx.refl w1).alloc (.cells #[.slice (some ⟨gs, 0, none⟩) 64 c, .slice A2 0 c2] 26)
  have bD := Box.new w1 26 #[.slice (some ⟨gs, 0, none⟩) 64 c, .slice A2 0 c2]
  have hrow1 : SetRow (w1.alloc (.cells #[.slice (some ⟨gs, 0, none⟩) 64 c, .slice A2 0 c2] 26)) gs noS := by have := hrow.nx hd; unfold OwnS at this; rw [noS_len] at this; exact this
  have hN1 := hk1.trans hd
  clear hS hrow hk1 hd
  go_wp2_with fail
  generalize w1.alloc (.cells #[.slice (some ⟨gs, 0, none⟩) 64 c, .slice A2 0 c2] 26) = wD at *
  obtain ⟨gD, HgD⟩ : ∃ g, Hid (w1.heap.size = g) := ⟨_, rfl⟩
  rw [HgD.out] at bD ⊢
  have hne : gD ≠ gs := Own.ne_type hrow1 bD.own (by decide)
  refine mergeFm (F := (fun Wq => SetRow Wq gs (fmT xs 0) ∧ Box Wq gD 26 #[.slice (some ⟨gs, 0, none⟩) 64 c, .slice A2 0 c2] ∧ Nx W Wq)) (G := ?_) (fun key => ?_) ?_
  rotate_left
  · skip
    refine wp_region_plan (.t 0 (.t 1 (.b 2 (.c 3 (.t 4 (.c 5 (.t 6 (.c 7 .e))))) 3 (.c 2 (.t 4 (.c 5 (.t 6 (.c 7 .e)))))))) (fun w' => w'.cell? ⟨gD, 0, none⟩ = some (.slice (some ⟨gs, 0, none⟩) 64 c)) (by kernel_rfl) (by kernel_rfl) rfl (by kernel_rfl) (fun _ _ d _ _ h => by cases d <;> exact h) (by exact (bD.nx (Nx.refl _).drew).c0) ?_
    simp only [psOf, List.getD_cons_zero, List.getD_cons_succ]
    have bDk := bD.nx (Nx.refl wD).drew
    have hrk : SetRow wD.drew gs noS := hrow1
    have hNk := hN1.drew
    generalize wD.drew = W0 at *
    repeat (first | (refine HP.take (v := ?_) (by rfl) ?_ ?_; rotate_left; (· (intro w hSw; (try dsimp only at hSw); go_simp; try with_reducible rfl)); (try simp only [Act.put, List.setIfInBounds_toArray, List.set_cons_zero, List.set_cons_succ])) | (refine HP.skip (by rfl) ?_; (try simp only [Act.put, List.setIfInBounds_toArray, List.set_cons_zero, List.set_cons_succ])))
    refine HP.both ?_ ?_
    · have hz1 := (Nx.refl W0).alloc (.cells #[] 3)
      have hz2 := hz1.alloc (.cells #[] 110)
      refine CallStep.mk (by rfl) (fun K hK => ?_)
      go_simp
      refine hK.out _ _ (by exact (bDk.nx hz1).c0) ?_
      clear hK K
      try simp only [Act.put, List.setIfInBounds_toArray, List.set_cons_zero, List.set_cons_succ]
      refine HP.call ?_
      refine CallStep.mk (by rfl) (fun K hK => ?_)
      go_simp
      refine hK.out _ _ (by exact (bDk.nx hz2).c0) ?_
      clear hK K
      try simp only [Act.put, List.setIfInBounds_toArray, List.set_cons_zero, List.set_cons_succ]
      repeat (first | (refine HP.take (v := ?_) (by rfl) ?_ ?_; rotate_left; (· (intro w hSw; (try dsimp only at hSw); go_simp; try with_reducible rfl)); (try simp only [Act.put, List.setIfInBounds_toArray, List.set_cons_zero, List.set_cons_succ])) | (refine HP.skip (by rfl) ?_; (try simp only [Act.put, List.setIfInBounds_toArray, List.set_cons_zero, List.set_cons_succ])))
      refine HP.call ?_
      refine CallStep.mk (by rfl) (fun K hK => ?_)
      go_simp
      refine (l04Text_c 1 0 0 0 (some ⟨W0.heap.size, 0, none⟩) (some ⟨(W0.heap.size + 1), 0, none⟩) 0 0 0 [] [] _ (fun h => absurd h (by simp)) (fun h => absurd h (by simp)) (Nat.zero_le _) super_new).mono ?_; rintro e v3 ⟨rfl, hv3⟩
      go_wp2_with fail
      refine hK.out _ _ (by exact (bDk.nx (hz2.trans hv3)).c0) ?_
      clear hK K
      try simp only [Act.put, List.setIfInBounds_toArray, List.set_cons_zero, List.set_cons_succ]
      repeat (first | (refine HP.take (v := ?_) (by rfl) ?_ ?_; rotate_left; (· (intro w hSw; (try dsimp only at hSw); go_simp; try with_reducible rfl)); (try simp only [Act.put, List.setIfInBounds_toArray, List.set_cons_zero, List.set_cons_succ])) | (refine HP.skip (by rfl) ?_; (try simp only [Act.put, List.setIfInBounds_toArray, List.set_cons_zero, List.set_cons_succ])))
      have hrow2 : SetRow v3 gs noS := Own.nx hrk (hz2.trans hv3)
      have bD2 := bDk.nx (hz2.trans hv3)
      have hN2 := hNk.trans (hz2.trans hv3)
      have hcl := hrow2.cell (i := 0) (by omega)
      have hcf := hrow2.frozen 0
      refine HP.call ?_
      refine CallStep.mk (by rfl) (fun K hK => ?_)
      go_simp
      refine hK.out _ _ (by exact (bD2.far (p := ⟨gs, 0, none⟩) hne (.string (supT 1 0 0 0 [] []))).c0) ?_
      clear hK K
      try simp only [Act.put, List.setIfInBounds_toArray, List.set_cons_zero, List.set_cons_succ]
      refine HP.done ?_
      have hrow3 : SetRow (v3.setCell ⟨gs, 0, none⟩ (.string (supT 1 0 0 0 [] []))) gs (fmT xs 0) := SetRow.set hrow2 (by omega) noS_len
      have bD3 := bD2.far (p := ⟨gs, 0, none⟩) hne (.string (supT 1 0 0 0 [] []))
      have hN3 := hN2.setCell (p := ⟨gs, 0, none⟩) hgs (.string (supT 1 0 0 0 [] []))
      clear hcl hcf
      unfold supT at hrow3 bD3 hN3
      generalize v3.setCell ⟨gs, 0, none⟩ (.string (sealS (numsS (supN 1 0 0 0 []) ++ ⟨#[124]⟩ ++ jn (wds [])))) = W4 at *
      obtain ⟨n1, Hn1⟩ : ∃ g, Hid (W0.heap.size + 1 = g) := ⟨_, rfl⟩
      rw [Hn1.out]
      generalize W0.heap.size = n0 at *
      exact key n0 n1 W4 ⟨hrow3, bD3, hN3⟩
    · have hz1 := (Nx.refl W0).alloc (.cells #[] 110)
      have hz2 := hz1.alloc (.cells #[] 3)
      refine CallStep.mk (by rfl) (fun K hK => ?_)
      go_simp
      refine hK.out _ _ (by exact (bDk.nx hz1).c0) ?_
      clear hK K
      try simp only [Act.put, List.setIfInBounds_toArray, List.set_cons_zero, List.set_cons_succ]
      refine HP.call ?_
      refine CallStep.mk (by rfl) (fun K hK => ?_)
      go_simp
      refine hK.out _ _ (by exact (bDk.nx hz2).c0) ?_
      clear hK K
      try simp only [Act.put, List.setIfInBounds_toArray, List.set_cons_zero, List.set_cons_succ]
      repeat (first | (refine HP.take (v := ?_) (by rfl) ?_ ?_; rotate_left; (· (intro w hSw; (try dsimp only at hSw); go_simp; try with_reducible rfl)); (try simp only [Act.put, List.setIfInBounds_toArray, List.set_cons_zero, List.set_cons_succ])) | (refine HP.skip (by rfl) ?_; (try simp only [Act.put, List.setIfInBounds_toArray, List.set_cons_zero, List.set_cons_succ])))
      refine HP.call ?_
      refine CallStep.mk (by rfl) (fun K hK => ?_)
      go_simp
      refine (l04Text_c 1 0 0 0 (some ⟨(W0.heap.size + 1), 0, none⟩) (some ⟨W0.heap.size, 0, none⟩) 0 0 0 [] [] _ (fun h => absurd h (by simp)) (fun h => absurd h (by simp)) (Nat.zero_le _) super_new).mono ?_; rintro e v3 ⟨rfl, hv3⟩
      go_wp2_with fail
      refine hK.out _ _ (by exact (bDk.nx (hz2.trans hv3)).c0) ?_
      clear hK K
      try simp only [Act.put, List.setIfInBounds_toArray, List.set_cons_zero, List.set_cons_succ]
      repeat (first | (refine HP.take (v := ?_) (by rfl) ?_ ?_; rotate_left; (· (intro w hSw; (try dsimp only at hSw); go_simp; try with_reducible rfl)); (try simp only [Act.put, List.setIfInBounds_toArray, List.set_cons_zero, List.set_cons_succ])) | (refine HP.skip (by rfl) ?_; (try simp only [Act.put, List.setIfInBounds_toArray, List.set_cons_zero, List.set_cons_succ])))
      have hrow2 : SetRow v3 gs noS := Own.nx hrk (hz2.trans hv3)
      have bD2 := bDk.nx (hz2.trans hv3)
      have hN2 := hNk.trans (hz2.trans hv3)
      have hcl := hrow2.cell (i := 0) (by omega)
      have hcf := hrow2.frozen 0
      refine HP.call ?_
      refine CallStep.mk (by rfl) (fun K hK => ?_)
      go_simp
      refine hK.out _ _ (by exact (bD2.far (p := ⟨gs, 0, none⟩) hne (.string (supT 1 0 0 0 [] []))).c0) ?_
      clear hK K
      try simp only [Act.put, List.setIfInBounds_toArray, List.set_cons_zero, List.set_cons_succ]
      refine HP.done ?_
      have hrow3 : SetRow (v3.setCell ⟨gs, 0, none⟩ (.string (supT 1 0 0 0 [] []))) gs (fmT xs 0) := SetRow.set hrow2 (by omega) noS_len
      have bD3 := bD2.far (p := ⟨gs, 0, none⟩) hne (.string (supT 1 0 0 0 [] []))
      have hN3 := hN2.setCell (p := ⟨gs, 0, none⟩) hgs (.string (supT 1 0 0 0 [] []))
      clear hcl hcf
      unfold supT at hrow3 bD3 hN3
      generalize v3.setCell ⟨gs, 0, none⟩ (.string (sealS (numsS (supN 1 0 0 0 []) ++ ⟨#[124]⟩ ++ jn (wds [])))) = W4 at *
      obtain ⟨n1, Hn1⟩ : ∃ g, Hid (W0.heap.size + 1 = g) := ⟨_, rfl⟩
      rw [Hn1.out]
      generalize W0.heap.size = n0 at *
      exact key n1 n0 W4 ⟨hrow3, bD3, hN3⟩
  intro n0 n1 W4 ⟨hrow4, bD4, hN4⟩
  go_wp2_with fail
  go_loopw [4] (fun i wr => ∃ k : Nat, k ≤ 8 ∧ i = .int .i64 k ∧ SetRow wr gs (fmT xs k) ∧ Box wr gD 26 #[.slice (some ⟨gs, 0, none⟩) 64 c, .slice A2 0 c2] ∧ Nx W wr) (fun i _ => 8 - (intOf i).toNat)
  case atStart => exact ⟨0, by omega, rfl, hrow4, bD4, hN4⟩
  case round =>
    obtain ⟨k, hk, rfl, hrow, bD, hN⟩ := hrel
    clear hrow4 bD4 hN4
    have hlen := fmT_len xs k
    by_cases hlt : k < 8
    case neg =>
      obtain rfl : k = 8 := by omega
      have hx5 := hx0.trans hN
      have r5 := r0.nx hN
      have d0 := bD.c0
      have d1 := bD.c1
      have hSS : SlS wr (gR + 1) (some ⟨gs, 0, none⟩) 64 (fmT xs 8) := ⟨hlen, fun _ => ⟨gs, rfl, by omega, by unfold OwnS; rw [hlen]; exact hrow⟩⟩
      have hWW : SlW wr (gR + 1) A2 0 [] := ⟨rfl, fun h => absurd h (by omega)⟩
      have s0 := r5.c0; have s1 := r5.c1; have sf0 := r5.frozen 0; have sf1 := r5.frozen 1; have sl := r5.lt
      go_wp2
      obtain ⟨q0, q1, hSf, hWf, hxf⟩ := fin_box c c2 r5 hSS hWW (by omega) (by omega) hx5 (by omega)
      generalize (wr.setCell ⟨gR, 0, none⟩ (.slice (some ⟨gs, 0, none⟩) 64 c)).setCell ⟨gR, 1, none⟩ (.slice A2 0 c2) = Wf at *
      exact bodyPost_ret (v := .agg #[.slice (some ⟨gs, 0, none⟩) 64 c, .slice A2 0 c2]) (by simp [results, Tryd.results30, go_sem, q0, q1]) rfl ⟨_, 64, c, A2, 0, c2, rfl, hSf, hWf, hxf⟩
    obtain ⟨bb, off, rfl, hbb, p00⟩ := h' k hlt _ _ hx0 hB
    have hv := Hv.out k hlt
    obtain ⟨q, Hq⟩ : ∃ q : Nat, Hid (xs.getD k 0 = (q : Int)) := ⟨(xs.getD k 0).toNat, Lib.hid (by omega)⟩
    have hq9 : q ≤ 999999 := by have := Hq.out; omega
    rw [Hq.out] at p00
    clear hv
    have hbg : bb < W.heap.size := Nat.lt_of_lt_of_le hbb (Nat.le_trans hB hx0.size)
    have p0 := (hN.cell (p := ⟨bb, off + k, none⟩) hbg).trans p00
    obtain ⟨z, Hz⟩ : ∃ z : Nat, Hid (2 + k = z) := ⟨_, rfl⟩
    have h2k : (2 : Int) + (k : Int) = (z : Int) := by have := Hz.out; omega
    have hz64 : z < 64 := by have := Hz.out; omega
    have hzi : (z : Int) < 64 := by omega
    have hwz : IntKind.i64.wrap (z : Int) = (z : Int) := IntWalk.i64_in _ (by omega)
    go_wp2_with fail
    refine wp_region_lex [false, false, false, false, false, false, false, false, true, true, false, true] (fun w' => w'.cell? ⟨gD, 0, none⟩ = some (.slice (some ⟨gs, 0, none⟩) 64 c) ∧ w'.cell? ⟨bb, off + k, none⟩ = some (.int .i64 (q : Int))) (by kernel_rfl) (by kernel_rfl) rfl (by kernel_rfl) (fun _ _ d _ _ h => by cases d <;> exact h) (by exact ⟨bD.c0, p0⟩) ?_
    repeat (first | (refine HL.take (v := ?_) (by rfl) ?_ ?_; rotate_left; (· (intro w hSw; (try dsimp only at hSw); go_simp; try with_reducible rfl)); (try simp only [Act.put, List.setIfInBounds_toArray, List.set_cons_zero, List.set_cons_succ])) | (refine HL.skip (by rfl) ?_; (try simp only [Act.put, List.setIfInBounds_toArray, List.set_cons_zero, List.set_cons_succ])))
    refine HL.call (by rfl) (fun K hK => ?_)
    go_simp
    refine (l02Six_c q _ hq9).mono ?_; rintro e v1 ⟨rfl, hk1⟩; have b1 := (bD.nx (Nx.refl _).drew).nx hk1; have p1 := ((Nx.refl wr).drew.trans hk1).cell (p := ⟨bb, off + k, none⟩) (Nat.lt_of_lt_of_le hbg hN.size) |>.trans p0; have hr1 : SetRow v1 gs (fmT xs k) := Own.nx hrow ((Nx.refl wr).drew.trans hk1); have hN1 := hN.trans ((Nx.refl wr).drew.trans hk1)
    go_wp2_with fail
    refine hK.out _ _ (by exact ⟨b1.c0, p1⟩) ?_
    clear hK K
    try simp only [Act.put, List.setIfInBounds_toArray, List.set_cons_zero, List.set_cons_succ]
    refine HL.call (by rfl) (fun K hK => ?_)
    go_simp
    refine (l02Seal_s ⟨(pad 6 q).toArray⟩ _ (by rw [pad6_size]; omega)).mono ?_; rintro e v2 ⟨rfl, hk2⟩; have b2 := b1.nx hk2; have p2 := hk2.cell (p := ⟨bb, off + k, none⟩) (Nat.lt_of_lt_of_le hbg hN1.size) |>.trans p1; have hr2 : SetRow v2 gs (fmT xs k) := Own.nx hr1 hk2; have hN2 := hN1.trans hk2; have hcl := hr2.cell (i := z) (by omega); have hcf := hr2.frozen z
    go_wp2_with fail
    refine hK.out _ _ (by exact ⟨b2.c0, p2⟩) ?_
    clear hK K
    try simp only [Act.put, List.setIfInBounds_toArray, List.set_cons_zero, List.set_cons_succ]
    repeat (first | (refine HL.take (v := ?_) (by rfl) ?_ ?_; rotate_left; (· (intro w hSw; (try dsimp only at hSw); go_simp; try with_reducible rfl)); (try simp only [Act.put, List.setIfInBounds_toArray, List.set_cons_zero, List.set_cons_succ])) | (refine HL.skip (by rfl) ?_; (try simp only [Act.put, List.setIfInBounds_toArray, List.set_cons_zero, List.set_cons_succ])))
    refine HL.call (by rfl) (fun K hK => ?_)
    go_simp
    refine hK.out _ _ (by exact ⟨(b2.far (p := ⟨gs, z, none⟩) hne (.string (sealS ⟨(pad 6 q).toArray⟩))).c0, ((hN2.setCell (p := ⟨gs, z, none⟩) hgs (.string (sealS ⟨(pad 6 q).toArray⟩))).cell (p := ⟨bb, off + k, none⟩) hbg).trans p00⟩) ?_
    clear hK K
    try simp only [Act.put, List.setIfInBounds_toArray, List.set_cons_zero, List.set_cons_succ]
    refine HL.done ?_
    have hr3 : SetRow (v2.setCell ⟨gs, z, none⟩ (.string (sealS ⟨(pad 6 q).toArray⟩))) gs (fmT xs (k + 1)) := by
      have := hr2.set (a := z) (s := sealS ⟨(pad 6 q).toArray⟩) (by omega) hlen
      have e : fmT xs (k + 1) = (fmT xs k).set z (sealS ⟨(pad 6 q).toArray⟩) := by show (fmT xs k).set (2 + k) (sealS (numsS [(xs.getD k 0).toNat])) = _; rw [Hq.out, numsS_one, Hz.out]; rfl
      rw [e]; exact this
    have b3 := b2.far (p := ⟨gs, z, none⟩) hne (.string (sealS ⟨(pad 6 q).toArray⟩))
    have hN3 := hN2.setCell (p := ⟨gs, z, none⟩) hgs (.string (sealS ⟨(pad 6 q).toArray⟩))
    clear hcl hcf hr2 hr1 b1 b2 hN1 hN2 p0 p1 p2 p00
    generalize v2.setCell ⟨gs, z, none⟩ (.string (sealS ⟨(pad 6 q).toArray⟩)) = W9 at *
    go_wp2
    go_roundw
    case rel => exact ⟨k + 1, by omega, by go_num, hr3, b3, hN3⟩
    case measure => simp [intOf]; omega
end Go.Proofs.YtehahodomfbpjaaDoor
/- Contracts of FormatVault, as the model and as the program have it. Conditions: the content can be read, and has at most 1048576 numbers; for the program: the library's table of powers of ten. -/
namespace Go.Proofs.YtehahodomfbpjaaDoor
set_option linter.unusedVariables false
set_option maxRecDepth 100000
open Go.RowKit

theorem fm_inj {c : List Int} {R1 S1 : List ByteArray} {R2 S2 : List (Int × ByteArray)} {cd cd2 : Int} (h : fmP c = ((R1, R2), cd)) (k : fmP c = ((S1, S2), cd2)) : R1 = S1 ∧ R2 = S2 ∧ cd = cd2 := by
  rw [h] at k; injection k with k1 k2; injection k1 with k1 k3; exact ⟨k1, k3, k2⟩
set_option maxHeartbeats 4000000 in
theorem specFormatVault_c (A0 : Option Addr) (c0 B : Nat) (xs : List Int) (w : World) (R1 : List ByteArray) (R2 : List (Int × ByteArray)) (cd : Int) (hP : fmP xs = ((R1, R2), cd)) (h : Ins w B A0 xs) (hB : B ≤ w.heap.size) (hn : xs.length ≤ 1048576) :
    Calls Tryd.prog 5 #[.slice A0 xs.length c0] w (RetDiskCode w R1 R2 cd) := by
  have r0 := Box.new w 26 #[.slice none 0 0, .slice none 0 0]
  have hx0 := (Nx.refl w).alloc (.cells #[.slice none 0 0, .slice none 0 0] 26)
  have hl0 := r0.lt
  go_enter Tryd.func5, Tryd.ntmps5
  by_cases h4 : 4096 < xs.length
  · have hd : decide (4096 < (xs.length : Int)) = true := decide_eq_true (by omega)
    obtain ⟨rfl, rfl, rfl⟩ := fm_inj hP (fmP_long h4)
    have s0 := r0.c0; have s1 := r0.c1; have sf0 := r0.frozen 0; have sf1 := r0.frozen 1
    go_wp2
    exact bodyPost_ret (v := .tuple #[.agg #[.slice none 0 0, .slice none 0 0], .int .i64 2]) (by simp [results, Tryd.results5, go_sem, s0, s1]) rfl ⟨none, 0, 0, none, 0, 0, rfl, SlS.nil _ _, SlW.nil _ _, hx0⟩
  have hd : decide (4096 < (xs.length : Int)) = false := decide_eq_false (by omega)
  go_wp2_with fail
  generalize w.alloc (.cells #[.slice none 0 0, .slice none 0 0] 26) = W at *
  obtain ⟨gR, HgR⟩ : ∃ g, Hid (w.heap.size = g) := ⟨_, rfl⟩
  have hgR : w.heap.size ≤ gR := by have := HgR.out; omega
  rw [HgR.out] at r0 hl0 ⊢
  refine (specContentOK_c A0 c0 B xs W (h.below hx0 hB) (Nat.le_trans hB hx0.size) hn).mono ?_
  rintro e w1 ⟨rfl, hk⟩
  have r1 := r0.nx hk
  have hx1 := hx0.trans hk
  cases hc : contB xs with
  | false =>
    obtain ⟨rfl, rfl, rfl⟩ := fm_inj hP (fmP_bad h4 hc)
    have hl1 := r1.lt
    clear hc
    have s0 := r1.c0; have s1 := r1.c1; have sf0 := r1.frozen 0; have sf1 := r1.frozen 1; have sl := r1.lt
    skip
    go_wp2
    obtain ⟨q0, q1, hSf, hWf, hxf⟩ := fin_box 0 0 r1 (SlS.nil w1 (gR + 1)) (SlW.nil w1 (gR + 1)) (by omega) (by omega) hx1 (by omega)
    generalize (w1.setCell ⟨gR, 0, none⟩ (.slice none 0 0)).setCell ⟨gR, 1, none⟩ (.slice none 0 0) = Wf at *
    exact bodyPost_ret (v := .tuple #[.agg #[.slice none 0 0, .slice none 0 0], .int .i64 1]) (by simp [results, Tryd.results5, go_sem, q0, q1]) rfl ⟨none, 0, 0, none, 0, 0, rfl, hSf, hWf, hxf⟩
  | true =>
    obtain ⟨rfl, rfl, rfl⟩ := fm_inj hP (fmP_yes hc)
    go_wp2_with fail
    refine (l05Format_c A0 c0 B xs w1 (h.below hx1 hB) (Nat.le_trans hB hx1.size) hc).mono ?_
    rintro e w2 ⟨A, n, c, A2, n2, c2, rfl, hS, hW, hk2⟩
    obtain rfl : 64 = n := (fmT_len xs 8).symm.trans hS.1
    obtain rfl : 0 = n2 := hW.1
    have r2 := r1.nx hk2
    have hx2 := hx1.trans hk2
    have hl1 := r1.lt
    have hl2 := r2.lt
    obtain ⟨gs, rfl, _⟩ := hS.2 (by omega)
    clear hc
    have s0 := r2.c0; have s1 := r2.c1; have sf0 := r2.frozen 0; have sf1 := r2.frozen 1; have sl := r2.lt
    go_wp2
    obtain ⟨q0, q1, hSf, hWf, hxf⟩ := fin_box c c2 r2 hS hW (by omega) (by omega) hx2 (by omega)
    generalize (w2.setCell ⟨gR, 0, none⟩ (.slice (some ⟨gs, 0, none⟩) 64 c)).setCell ⟨gR, 1, none⟩ (.slice A2 0 c2) = Wf at *
    exact bodyPost_ret (v := .tuple #[.agg #[.slice (some ⟨gs, 0, none⟩) 64 c, .slice A2 0 c2], .int .i64 0]) (by simp [results, Tryd.results5, go_sem, q0, q1]) rfl ⟨_, 64, c, A2, 0, c2, rfl, hSf, hWf, hxf⟩
set_option maxHeartbeats 4000000 in
theorem implFormatVault_c (A0 : Option Addr) (c0 B : Nat) (xs : List Int) (w : World) (R1 : List ByteArray) (R2 : List (Int × ByteArray)) (cd : Int) (hP : fmP xs = ((R1, R2), cd)) (h : Ins w B A0 xs) (hB : B ≤ w.heap.size) (hn : xs.length ≤ 1048576) (hT : Tab w) :
    Calls Tryd.prog 7 #[.slice A0 xs.length c0] w (RetDiskCode w R1 R2 cd) := by
  have r0 := Box.new w 26 #[.slice none 0 0, .slice none 0 0]
  have hx0 := (Nx.refl w).alloc (.cells #[.slice none 0 0, .slice none 0 0] 26)
  have hl0 := r0.lt
  go_enter Tryd.func7, Tryd.ntmps7
  go_wp2_with fail
  generalize w.alloc (.cells #[.slice none 0 0, .slice none 0 0] 26) = W at *
  obtain ⟨gR, HgR⟩ : ∃ g, Hid (w.heap.size = g) := ⟨_, rfl⟩
  have hgR : w.heap.size ≤ gR := by have := HgR.out; omega
  rw [HgR.out] at r0 hl0 ⊢
  refine (contentCode_c A0 c0 B xs W (h.below hx0 hB) (Nat.le_trans hB hx0.size) hn).mono ?_
  rintro e w0 ⟨rfl, hk0⟩
  have r0' := r0.nx hk0
  have hx0' := hx0.trans hk0
  by_cases hz : askC xs true = 0
  case neg =>
    obtain ⟨rfl, rfl, hcd⟩ := fm_inj hP (fmP_no hz)
    obtain ⟨q, Hq⟩ : ∃ q, Hid (askC xs true = q) := ⟨_, rfl⟩
    obtain rfl : cd = q := hcd.trans Hq.out
    clear hP hcd
    have hl1 := r0'.lt
    rw [Hq.out] at hz ⊢
    have hne : (cd != 0) = true := by simpa using hz
    clear hz
    have s0 := r0'.c0; have s1 := r0'.c1; have sf0 := r0'.frozen 0; have sf1 := r0'.frozen 1; have sl := r0'.lt
    skip
    go_wp2
    obtain ⟨q0, q1, hSf, hWf, hxf⟩ := fin_box 0 0 r0' (SlS.nil w0 (gR + 1)) (SlW.nil w0 (gR + 1)) (by omega) (by omega) hx0' (by omega)
    generalize (w0.setCell ⟨gR, 0, none⟩ (.slice none 0 0)).setCell ⟨gR, 1, none⟩ (.slice none 0 0) = Wf at *
    exact bodyPost_ret (v := .tuple #[.agg #[.slice none 0 0, .slice none 0 0], .int .i64 cd]) (by simp [results, Tryd.results7, go_sem, q0, q1]) rfl ⟨none, 0, 0, none, 0, 0, rfl, hSf, hWf, hxf⟩
  have hc := askC_zero hz
  obtain ⟨rfl, rfl, rfl⟩ := fm_inj hP (fmP_yes hc)
  rw [hz]
  clear hP
  have hx8 := (contB_yes hc).1
  have Hv := Lib.hid (contB_yes hc).2
  have HT := Lib.hid hT
  have h' : ∀ k, k < 8 → _ := fun k hk w' B' hw hB' => ((h.below (w' := w') (B' := B') hw hB').at_ (k := k) (by omega))
  obtain ⟨m, Hm⟩ : ∃ m, Hid (xs.length = m) := ⟨_, rfl⟩
  have hm8 : m = 8 := by have := Hm.out; omega
  rw [Hm.out]
  subst hm8
  clear hc h hx8 hz hn hT r0 hx0 hl0 hk0
  have r0 := r0'
  have hx0 := hx0'
  clear r0' hx0'
  have hl0 := r0.lt
  generalize hW0 : w0 = W0 at *
  go_wp2_with fail
  refine (implNewDisk_c W0).mono ?_
  rintro e w1 ⟨A, n, c, A2, n2, c2, rfl, hS, hW, hk1⟩
  obtain rfl : 64 = n := noS_len.symm.trans hS.1
  obtain rfl : 0 = n2 := hW.1
  obtain ⟨gs, rfl, hgs, hrow⟩ := hS.2 (by omega)
  have hd := (Nx.refl w1).alloc (.cells #[.slice (some ⟨gs, 0, none⟩) 64 c, .slice A2 0 c2] 26)
  have bD := Box.new w1 26 #[.slice (some ⟨gs, 0, none⟩) 64 c, .slice A2 0 c2]
  have hrow1 : SetRow (w1.alloc (.cells #[.slice (some ⟨gs, 0, none⟩) 64 c, .slice A2 0 c2] 26)) gs noS := by have := hrow.nx hd; unfold OwnS at this; rw [noS_len] at this; exact this
  have hN1 := hk1.trans hd
  clear hS hrow hk1 hd
  go_wp2_with fail
  generalize w1.alloc (.cells #[.slice (some ⟨gs, 0, none⟩) 64 c, .slice A2 0 c2] 26) = wD at *
  obtain ⟨gD, HgD⟩ : ∃ g, Hid (w1.heap.size = g) := ⟨_, rfl⟩
  rw [HgD.out] at bD ⊢
  have hne : gD ≠ gs := Own.ne_type hrow1 bD.own (by decide)
  refine wp_region_lex [false, false, false, true, false, true] (fun w' => w'.cell? ⟨gD, 0, none⟩ = some (.slice (some ⟨gs, 0, none⟩) 64 c)) (by kernel_rfl) (by kernel_rfl) rfl (by kernel_rfl) (fun _ _ d _ _ h => by cases d <;> exact h) (by exact bD.c0) ?_
  repeat (first | (refine HL.take (v := ?_) (by rfl) ?_ ?_; rotate_left; (· (intro w hSw; (try dsimp only at hSw); go_simp; try with_reducible rfl)); (try simp only [Act.put, List.setIfInBounds_toArray, List.set_cons_zero, List.set_cons_succ])) | (refine HL.skip (by rfl) ?_; (try simp only [Act.put, List.setIfInBounds_toArray, List.set_cons_zero, List.set_cons_succ])))
  refine HL.call (by rfl) (fun K hK => ?_)
  go_simp
  refine (superText_c 1 0 0 0 none none 0 0 0 [] [] _ (fun h => absurd h (by simp)) (fun h => absurd h (by simp)) (Nat.zero_le _) super_new (HT.out.nx (hx0.trans hN1.drew))).mono ?_; rintro e v1 ⟨rfl, hk1⟩; have hkk := (Nx.refl wD).drew.trans hk1; have b1 := bD.nx hkk; have hr1 : SetRow v1 gs noS := Own.nx hrow1 hkk; have hN2 := hN1.trans hkk; have hcl := hr1.cell (i := 0) (by omega); have hcf := hr1.frozen 0
  go_wp2_with fail
  refine hK.out _ _ (by exact b1.c0) ?_
  clear hK K
  try simp only [Act.put, List.setIfInBounds_toArray, List.set_cons_zero, List.set_cons_succ]
  repeat (first | (refine HL.take (v := ?_) (by rfl) ?_ ?_; rotate_left; (· (intro w hSw; (try dsimp only at hSw); go_simp; try with_reducible rfl)); (try simp only [Act.put, List.setIfInBounds_toArray, List.set_cons_zero, List.set_cons_succ])) | (refine HL.skip (by rfl) ?_; (try simp only [Act.put, List.setIfInBounds_toArray, List.set_cons_zero, List.set_cons_succ])))
  refine HL.call (by rfl) (fun K hK => ?_)
  go_simp
  refine hK.out _ _ (by exact (b1.far (p := ⟨gs, 0, none⟩) hne (.string (supT 1 0 0 0 [] []))).c0) ?_
  clear hK K
  try simp only [Act.put, List.setIfInBounds_toArray, List.set_cons_zero, List.set_cons_succ]
  refine HL.done ?_
  have hrow4 : SetRow (v1.setCell ⟨gs, 0, none⟩ (.string (supT 1 0 0 0 [] []))) gs (fmT xs 0) := SetRow.set hr1 (by omega) noS_len
  have bD4 := b1.far (p := ⟨gs, 0, none⟩) hne (.string (supT 1 0 0 0 [] []))
  have hN4 := hN2.setCell (p := ⟨gs, 0, none⟩) hgs (.string (supT 1 0 0 0 [] []))
  clear hcl hcf hr1 b1 hN2 hrow1 bD hN1
  unfold supT at hrow4 bD4 hN4
  generalize v1.setCell ⟨gs, 0, none⟩ (.string (sealS (numsS (supN 1 0 0 0 []) ++ ⟨#[124]⟩ ++ jn (wds [])))) = W4 at *
  go_wp2_with fail
  go_loopw [22] (fun i wr => ∃ k : Nat, k ≤ 8 ∧ i = .int .i64 k ∧ SetRow wr gs (fmT xs k) ∧ Box wr gD 26 #[.slice (some ⟨gs, 0, none⟩) 64 c, .slice A2 0 c2] ∧ Nx W0 wr) (fun i _ => 8 - (intOf i).toNat)
  case atStart => exact ⟨0, by omega, rfl, hrow4, bD4, hN4⟩
  case round =>
    obtain ⟨k, hk, rfl, hrow, bD, hN⟩ := hrel
    clear hrow4 bD4 hN4
    have hlen := fmT_len xs k
    by_cases hlt : k < 8
    case neg =>
      obtain rfl : k = 8 := by omega
      have hx5 := hx0.trans hN
      have r5 := r0.nx hN
      have d0 := bD.c0
      have d1 := bD.c1
      have hSS : SlS wr (gR + 1) (some ⟨gs, 0, none⟩) 64 (fmT xs 8) := ⟨hlen, fun _ => ⟨gs, rfl, by omega, by unfold OwnS; rw [hlen]; exact hrow⟩⟩
      have hWW : SlW wr (gR + 1) A2 0 [] := ⟨rfl, fun h => absurd h (by omega)⟩
      have s0 := r5.c0; have s1 := r5.c1; have sf0 := r5.frozen 0; have sf1 := r5.frozen 1; have sl := r5.lt
      go_wp2
      obtain ⟨q0, q1, hSf, hWf, hxf⟩ := fin_box c c2 r5 hSS hWW (by omega) (by omega) hx5 (by omega)
      generalize (wr.setCell ⟨gR, 0, none⟩ (.slice (some ⟨gs, 0, none⟩) 64 c)).setCell ⟨gR, 1, none⟩ (.slice A2 0 c2) = Wf at *
      exact bodyPost_ret (v := .tuple #[.agg #[.slice (some ⟨gs, 0, none⟩) 64 c, .slice A2 0 c2], .int .i64 0]) (by simp [results, Tryd.results7, go_sem, q0, q1]) rfl ⟨_, 64, c, A2, 0, c2, rfl, hSf, hWf, hxf⟩
    obtain ⟨bb, off, rfl, hbb, p00⟩ := h' k hlt _ _ hx0 hB
    have hv := Hv.out k hlt
    obtain ⟨q, Hq⟩ : ∃ q : Nat, Hid (xs.getD k 0 = (q : Int)) := ⟨(xs.getD k 0).toNat, Lib.hid (by omega)⟩
    have hq9 : q ≤ 999999 := by have := Hq.out; omega
    rw [Hq.out] at p00
    clear hv
    have hbg : bb < W0.heap.size := Nat.lt_of_lt_of_le hbb (Nat.le_trans hB hx0.size)
    have p0 := (hN.cell (p := ⟨bb, off + k, none⟩) hbg).trans p00
    obtain ⟨z, Hz⟩ : ∃ z : Nat, Hid (2 + k = z) := ⟨_, rfl⟩
    have h2k : (2 : Int) + (k : Int) = (z : Int) := by have := Hz.out; omega
    have hz64 : z < 64 := by have := Hz.out; omega
    have hzi : (z : Int) < 64 := by omega
    have hwz : IntKind.i64.wrap (z : Int) = (z : Int) := IntWalk.i64_in _ (by omega)
    have HO6 : Hid (All6 [q]) := Lib.hid (fun j hj => by obtain rfl : j = 0 := (by simpa using hj); exact hq9)
    go_wp2_with fail
    refine wp_region_lex [false, false, false, false, false, true, true, true, false, true] (fun w' => w'.cell? ⟨gD, 0, none⟩ = some (.slice (some ⟨gs, 0, none⟩) 64 c)) (by kernel_rfl) (by kernel_rfl) rfl (by kernel_rfl) (fun _ _ d _ _ h => by cases d <;> exact h) (by exact bD.c0) ?_
    repeat (first | (refine HL.take (v := ?_) (by rfl) ?_ ?_; rotate_left; (· (intro w hSw; (try dsimp only at hSw); go_simp; try with_reducible rfl)); (try simp only [Act.put, List.setIfInBounds_toArray, List.set_cons_zero, List.set_cons_succ])) | (refine HL.skip (by rfl) ?_; (try simp only [Act.put, List.setIfInBounds_toArray, List.set_cons_zero, List.set_cons_succ])))
    refine HL.call (by rfl) (fun K hK => ?_)
    go_simp
    refine hK.out _ _ (by exact (bD.nx ((Nx.refl wr).drew.alloc (.cells #[.int .i64 (q : Int)] 3))).c0) ?_
    clear hK K
    try simp only [Act.put, List.setIfInBounds_toArray, List.set_cons_zero, List.set_cons_succ]
    refine HL.call (by rfl) (fun K hK => ?_)
    go_simp
    have ka := (Nx.refl wr).drew.alloc (.cells #[.int .i64 (q : Int)] 3); have bN := Box.new wr.drew 3 #[.int .i64 (q : Int)]; refine (numbersText_c (some ⟨wr.heap.size, 0, none⟩) 1 (wr.heap.size + 1) [q] _ (fun _ => ⟨wr.heap.size, 0, rfl, by omega, fun i hi => by obtain rfl : i = 0 := (by simpa using hi); exact bN.cell 0⟩) (by show wr.heap.size + 1 ≤ (wr.alloc (.cells #[.int .i64 (q : Int)] 3)).heap.size; rw [World.size_alloc]; exact Nat.le_refl _) HO6.out (by simp) (by simp)).mono ?_; rintro e v1 ⟨rfl, hk1⟩; have kb := ka.trans hk1; have b1 := bD.nx kb
    go_wp2_with fail
    refine hK.out _ _ (by exact b1.c0) ?_
    clear hK K
    try simp only [Act.put, List.setIfInBounds_toArray, List.set_cons_zero, List.set_cons_succ]
    refine HL.call (by rfl) (fun K hK => ?_)
    go_simp
    refine (sealed_c (numsS [q]) _ (by rw [numsS_size]; simp)).mono ?_; rintro e v2 ⟨rfl, hk2⟩; have kc := kb.trans hk2; have b2 := bD.nx kc; have hr2 : SetRow v2 gs (fmT xs k) := Own.nx hrow kc; have hN2 := hN.trans kc; have hcl := hr2.cell (i := z) (by omega); have hcf := hr2.frozen z
    go_wp2_with fail
    refine hK.out _ _ (by exact b2.c0) ?_
    clear hK K
    try simp only [Act.put, List.setIfInBounds_toArray, List.set_cons_zero, List.set_cons_succ]
    repeat (first | (refine HL.take (v := ?_) (by rfl) ?_ ?_; rotate_left; (· (intro w hSw; (try dsimp only at hSw); go_simp; try with_reducible rfl)); (try simp only [Act.put, List.setIfInBounds_toArray, List.set_cons_zero, List.set_cons_succ])) | (refine HL.skip (by rfl) ?_; (try simp only [Act.put, List.setIfInBounds_toArray, List.set_cons_zero, List.set_cons_succ])))
    refine HL.call (by rfl) (fun K hK => ?_)
    go_simp
    refine hK.out _ _ (by exact (b2.far (p := ⟨gs, z, none⟩) hne (.string (sealS (numsS [q])))).c0) ?_
    clear hK K
    try simp only [Act.put, List.setIfInBounds_toArray, List.set_cons_zero, List.set_cons_succ]
    refine HL.done ?_
    have hr3 : SetRow (v2.setCell ⟨gs, z, none⟩ (.string (sealS (numsS [q])))) gs (fmT xs (k + 1)) := by
      have := hr2.set (a := z) (s := sealS (numsS [q])) (by omega) hlen
      have e : fmT xs (k + 1) = (fmT xs k).set z (sealS (numsS [q])) := by show (fmT xs k).set (2 + k) (sealS (numsS [(xs.getD k 0).toNat])) = _; rw [Hq.out, Hz.out]; rfl
      rw [e]; exact this
    have b3 := b2.far (p := ⟨gs, z, none⟩) hne (.string (sealS (numsS [q])))
    have hN3 := hN2.setCell (p := ⟨gs, z, none⟩) hgs (.string (sealS (numsS [q])))
    clear hcl hcf hr2 b1 b2 hN2 p0 p00 ka kb kc bN
    generalize v2.setCell ⟨gs, z, none⟩ (.string (sealS (numsS [q]))) = W9 at *
    go_wp2
    go_roundw
    case rel => exact ⟨k + 1, by omega, by go_num, hr3, b3, hN3⟩
    case measure => simp [intOf]; omega
end Go.Proofs.YtehahodomfbpjaaDoor
/- The walk of the law FnExactFormatVault. Conditions: the list that comes in can be read; the library's table of powers of ten. -/
namespace Go.Proofs.YtehahodomfbpjaaDoor
set_option linter.unusedVariables false
set_option maxRecDepth 100000
open Go.RowKit

set_option maxHeartbeats 8000000 in
theorem lawFormatVault (A0 : Option Addr) (k0 : Nat) (xs : List Int) (w : World) (hT : Tab w) (h : Ins w w.heap.size A0 xs) (hw : ∀ k, k < xs.length → (Lit.int .i64 (xs.getD k 0)).wf = true) (hn : xs.length ≤ 2 ^ 63 - 1) :
    Calls Tryd.prog 3 #[.slice A0 xs.length k0] w fun e w' => e = .returned (.bool true) ∧ Nx w w' := by
  clear hw hn
  by_cases hl : xs.length ≤ 1048576
  case neg =>
    have hd : decide (1048576 < (xs.length : Int)) = true := by simp; omega
    go_enter Tryd.func3, Tryd.ntmps3
    go_wp2
    go_ret
    exact ⟨rfl, Nx.refl _⟩
  have hd : decide (1048576 < (xs.length : Int)) = false := by simp; omega
  obtain ⟨⟨⟨R1, R2⟩, cd⟩, HP⟩ : ∃ y, Hid (fmP xs = y) := ⟨_, rfl⟩
  obtain ⟨hR1, hR2⟩ := fmP_len HP.out
  obtain ⟨r1, Hr1⟩ : ∃ r, Hid (R1.length = r) := ⟨_, rfl⟩
  obtain ⟨r2, Hr2⟩ : ∃ r, Hid (R2.length = r) := ⟨_, rfl⟩
  have hr1 : r1 ≤ 64 := by have := Hr1.out; omega
  have hr2 : r2 ≤ 80 := by have := Hr2.out; omega
  clear hR1 hR2
  go_enter Tryd.func3, Tryd.ntmps3
  go_wp2_with fail
  refine (toIntS_c A0 k0 w.heap.size xs w h (Nat.le_refl _) hl).mono ?_
  rintro e w1 ⟨X3, x3, rfl, hS3, hX⟩
  go_wp2_with fail
  refine (specFormatVault_c X3 x3 _ xs w1 R1 R2 cd HP.out hS3.row (Nat.le_refl _) hl).mono ?_
  rintro e w2 ⟨D1, p, d1, D2, q, d2, rfl, dS, dW, hk⟩
  obtain rfl : r1 = p := Hr1.out.symm.trans dS.1
  obtain rfl : r2 = q := Hr2.out.symm.trans dW.1
  have D := Dk.new (c := d1) (c2 := d2) dS dW
  have o0 := hk.size
  have hx2 := (hX.trans hk).alloc (.cells #[.slice D1 r1 d1, .slice D2 r2 d2] 26)
  clear hS3 hX hk dS dW
  go_wp2_with fail
  generalize w2.alloc (.cells #[.slice D1 r1 d1, .slice D2 r2 d2] 26) = w3 at *
  refine (toIntS_c A0 k0 w.heap.size xs w3 (h.below hx2 (Nat.le_refl _)) hx2.size hl).mono ?_
  rintro e w4 ⟨X1, x1, rfl, xS, hk⟩
  have o1 := D.2.2.lt
  have o9 := hx2.size
  have o2 := hk.size
  have D4 := D.nx hk
  have X := xS.sr
  have hx4 := hx2.trans hk
  clear D hx2 hk xS
  go_wp2_with fail
  refine (implFormatVault_c X1 x1 _ xs w4 R1 R2 cd HP.out X.sl.row (Nat.le_refl _) hl (hT.nx hx4)).mono ?_
  rintro e w5 ⟨G1, p, g1, G2, q, g2, rfl, gS, gW, hk⟩
  obtain rfl : r1 = p := Hr1.out.symm.trans gS.1
  obtain rfl : r2 = q := Hr2.out.symm.trans gW.1
  have G := Dk.new (c := g1) (c2 := g2) gS gW
  have o3 := hk.size
  have hkk := hk.alloc (.cells #[.slice G1 r1 g1, .slice G2 r2 g2] 26)
  have D6 := D4.nx hkk
  have X6 := X.nx hkk
  have hx6 := hx4.trans hkk
  clear D4 X hx4 hk hkk gS gW
  have y0 := G.c0
  have y1 := G.c1
  have z0 := D6.c0
  have z1 := D6.c1
  go_wp2_with fail
  generalize w5.alloc (.cells #[.slice G1 r1 g1, .slice G2 r2 g2] 26) = w6 at *
  refine (eqDisk_c G1 G2 D1 D2 r1 g1 d1 r2 g2 d2 _ R1 R2 w6 G.strs D6.strs G.wrs D6.wrs (Nat.le_refl _) (by omega) (by omega)).mono ?_
  rintro e w7 ⟨rfl, hk⟩
  have D7 := D6.nx hk
  have G7 := G.nx hk
  have X7 := X6.nx hk
  have hx7 := hx6.trans hk
  clear y0 y1
  clear z0 z1
  clear D6 G X6 hx6 hk hd
  go_wp2_with fail
  refine (toIntS_c A0 k0 w.heap.size xs w7 (h.below hx7 (Nat.le_refl _)) hx7.size hl).mono ?_
  rintro e w8 ⟨X8, x8, rfl, hS8, hk⟩
  have D8 := D7.nx hk
  have G8 := G7.nx hk
  have XX := X7.nx hk
  have hx8 := hx7.trans hk
  clear D7 G7 X7 hx7 hk
  go_wp2_with fail
  refine (eqIntS_c X1 X8 x1 x8 _ xs w8 XX.sl.row hS8.row (Nat.le_refl _) hl).mono ?_
  rintro e w9 ⟨rfl, hk⟩
  have D9 := D8.nx hk
  have G9 := G8.nx hk
  have X9 := XX.nx hk
  have hx9 := hx8.trans hk
  clear D8 G8 XX hx8 hk hS8
  go_wp2_with fail
  refine (markIntS_c X1 xs.length x1 1 w3.heap.size w4.heap.size _ w9 X9 hl (by omega)).mono ?_
  rintro e wa ⟨rfl, _, hr⟩
  have Da := D9.rg hr (.inl (by omega)) (by omega)
  have Ga := G9.rg hr (.inr (by omega)) (by omega)
  have hxa := Rg.nx_of hx9 hr (by omega)
  clear D9 G9 X9 hx9 hr
  obtain ⟨kk, Hkk⟩ : ∃ q : Nat, Hid (1 + xs.length = q) := ⟨_, rfl⟩
  rw [Hkk.out]
  have hk0 : decide ((kk : Int) < 0) = false := by simp
  have y0 := Ga.c0
  have y1 := Ga.c1
  have z0 := Da.c0
  have z1 := Da.c1
  go_wp2_with fail
  refine (eqDisk_c G1 G2 D1 D2 r1 g1 d1 r2 g2 d2 _ R1 R2 wa Ga.strs Da.strs Ga.wrs Da.wrs (Nat.le_refl _) (by omega) (by omega)).mono ?_
  rintro e wb ⟨rfl, hk⟩
  have Db := Da.nx hk
  have Gb := Ga.nx hk
  have hxb := hxa.trans hk
  clear y0 y1
  clear z0 z1
  clear Da Ga hxa hk
  have y0 := Gb.c0
  have y1 := Gb.c1
  go_wp2_with fail
  refine (markDisk_c G1 G2 r1 g1 r2 g2 1 w4.heap.size w5.heap.size R1 R2 wb Gb.1 Gb.2.1 (Nat.le_of_lt Gb.2.2.lt) (by omega) (by omega) (by omega)).mono ?_
  rintro e wc ⟨rfl, mS, mW, hr⟩
  obtain ⟨M, HM⟩ : ∃ M, Hid (1 + r1 + r2 * 2 = M) := ⟨_, rfl⟩
  have hM0 : decide ((M : Int) < 0) = false := by simp
  rw [HM.out]
  have Dc := Db.rg hr (.inl (by omega)) (by omega)
  have Bc := Gb.2.2.rg hr (.inr (Nat.le_refl _))
  have hxc := Rg.nx_of hxb hr (by omega)
  clear y0 y1
  clear Db Gb hxb hr
  have y0 := Bc.c0
  have y1 := Bc.c1
  go_wp2_with fail
  refine (heldDisk_c G1 G2 r1 g1 r2 g2 1 _ wc mS.sl.strs mW.sl.wrs (Nat.le_refl _) (by omega) (by omega) (by omega)).mono ?_
  rintro e wd ⟨rfl, hk⟩
  rw [HM.out]
  have Dd := Dc.nx hk
  have Bd := Bc.nx hk
  have mSd := mS.nx hk
  have mWd := mW.nx hk
  have hxd := hxc.trans hk
  clear y0 y1
  clear Dc Bc mS mW hxc hk
  go_wp2_with fail
  refine (toIntS_c A0 k0 w.heap.size xs wd (h.below hxd (Nat.le_refl _)) hxd.size hl).mono ?_
  rintro e we ⟨Y1, y1, rfl, hSe, hk⟩
  have De := Dd.nx hk
  have Be := Bd.nx hk
  have mSe := mSd.nx hk
  have mWe := mWd.nx hk
  have hxe := hxd.trans hk
  clear Dd Bd mSd mWd hxd hk
  go_wp2_with fail
  refine (implFormatVault_c Y1 y1 _ xs we R1 R2 cd HP.out hSe.row (Nat.le_refl _) hl (hT.nx hxe)).mono ?_
  rintro e wf ⟨H1, p, h1, H2, q, h2, rfl, hS, hW, hk⟩
  obtain rfl : r1 = p := Hr1.out.symm.trans hS.1
  obtain rfl : r2 = q := Hr2.out.symm.trans hW.1
  have H := Dk.new (c := h1) (c2 := h2) hS hW
  have hkk := hk.alloc (.cells #[.slice H1 r1 h1, .slice H2 r2 h2] 26)
  have Df := De.nx hkk
  have Bf := Be.nx hkk
  have mSf := mSe.nx hkk
  have mWf := mWe.nx hkk
  have hxf := hxe.trans hkk
  clear De Be mSe mWe hxe hk hkk hS hW hSe
  have y0 := H.c0
  have y1 := H.c1
  have z0 := Df.c0
  have z1 := Df.c1
  go_wp2_with fail
  generalize wf.alloc (.cells #[.slice H1 r1 h1, .slice H2 r2 h2] 26) = wg at *
  refine (eqDisk_c H1 H2 D1 D2 r1 h1 d1 r2 h2 d2 _ R1 R2 wg H.strs Df.strs H.wrs Df.wrs (Nat.le_refl _) (by omega) (by omega)).mono ?_
  rintro e wh ⟨rfl, hk⟩
  have Bh := Bf.nx hk
  have mSh := mSf.nx hk
  have mWh := mWf.nx hk
  have hxh := hxf.trans hk
  clear y0 y1
  clear z0 z1
  clear H Df Bf mSf mWf hxf hk
  have y0 := Bh.c0
  have y1 := Bh.c1
  go_wp2_with fail
  refine (heldDisk_c G1 G2 r1 g1 r2 g2 1 _ wh mSh.sl.strs mWh.sl.wrs (Nat.le_refl _) (by omega) (by omega) (by omega)).mono ?_
  rintro e wi ⟨rfl, hk⟩
  rw [HM.out]
  have hxi := hxh.trans hk
  go_wp2
  go_ret
  exact ⟨rfl, hxi⟩
end Go.Proofs.YtehahodomfbpjaaDoor
/- From the listed tables to what is known of them in memory. Conditions: the library's tables read as the program's text lays them. -/
namespace Go.Proofs.YtehahodomfbpjaaDoor
set_option maxRecDepth 100000
open Go.ChangeShapes Go.WideShapes Go.ChangeAt Go.WideMaps Go.WideElems Go.RowKit
theorem ownT : ownKnob Tryd.prog.godebug = none := by kernel_rfl
theorem laidOutT : laidOutB Tryd.prog = true := by kernel_rfl
def laidT : List (String × DataW Unit) := [("math/bits.deBruijn32tab", Rows.laid_math_bits_deBruijn32tab), ("math/bits.deBruijn64tab", Rows.laid_math_bits_deBruijn64tab), ("internal/strconv.uint64pow10", Rows.laid_internal_strconv_uint64pow10)]
theorem door_metT (os : Os) (args : Array Value) : laidMetH Tryd.prog laidT ((World.doorLaid Tryd.prog 72 os).forCall (fun _ _ => 0) ⟨#[], args, []⟩).memory :=
  laidMetH_of_parts3 (fuel := 8) (laidMet_of_run' 8 (by kernel_rfl) (by kernel_rfl)) (by kernel_rfl) (by kernel_rfl)
theorem pow_datum : (Rows.laid_internal_strconv_uint64pow10 : DataW Unit) = Lib.tabData .u64 Lib.pow10Tab := by kernel_rfl
theorem gPow : ∃ g, Tryd.prog.globalNamed "internal/strconv.uint64pow10" = some g ∧ (Tryd.prog.globals[g]?).map (·.type) = some 144 := ⟨(Tryd.prog.globalNamed "internal/strconv.uint64pow10").getD 0, by kernel_rfl, by kernel_rfl⟩
theorem tab_of_laid {W : World} (h : laidMetH Tryd.prog laidT W) : Tab W := by
  rw [MakeChecks.laidMetH_plain _ _ _ (by kernel_rfl)] at h
  have h1 := laidMet.tail (laidMet.tail h)
  rw [pow_datum] at h1
  obtain ⟨g, hg, hty⟩ := gPow
  exact Lib.tabIs_of_head hg hty Tryd.underlying144 Tryd.underlying137 (by kernel_rfl) (by kernel_rfl) h1
end Go.Proofs.YtehahodomfbpjaaDoor
