/-
  Texts of the proof, put together in their order: Fmi, Rgs, Lds, Vlc, Ldi, Vcc, Vci, Vct, Vca, Vlv, Mkv, Mvt, Lre, Lca, Bl, Src2, Pd, Same, Smd, Sgd, Ldk, Ldq, Sz, Mkw, Mkx, Mky, Lld, Lfo, Dle.
  Conditions: those of each.
-/
import Derived.Test.YtehahodomfbpjaaGreatDoorMm16
import Derived.Deep.QuietTactic
import Derived.BigQuiet
import Derived.Deep.Slices
import Derived.ChangeSame
import Derived.Outline
import Derived.Laws.BytesArg
import Derived.Deep.RegionWith
import Derived.Laws.StructEq
import Derived.Test.YtehahodomfbpjaaGreatDoorRows
import Derived.LaidHandle
import Derived.Lay
import Derived.HandedShaped
import Derived.Shelf.Vars
import Derived.ProofKit
import Derived.LaidMore
import Derived.OpenShut
import Derived.OpenVars
import Derived.Stop.Joined
import Derived.Stop.LaidTwo
import Derived.Lib.LaidTab
import Derived.LaidLaws
import Derived.ShutString
import Derived.ChangeOld
import Derived.Below
/- Contracts of FormatVault, as the model and as the program have it. Conditions: the content can be read, and has at most 1048576 numbers; for the program: the library's table of powers of ten. -/
namespace Go.Proofs.YtehahodomfbpjaaGreatDoor
set_option linter.unusedVariables false
set_option maxRecDepth 100000
open Go.RowKit

theorem fm_inj {c : List Int} {R1 S1 : List ByteArray} {R2 S2 : List (Int × ByteArray)} {cd cd2 : Int} (h : fmP c = ((R1, R2), cd)) (k : fmP c = ((S1, S2), cd2)) : R1 = S1 ∧ R2 = S2 ∧ cd = cd2 := by
  rw [h] at k; injection k with k1 k2; injection k1 with k1 k3; exact ⟨k1, k3, k2⟩
set_option maxHeartbeats 4000000 in
theorem specFormatVault_c (A0 : Option Addr) (c0 B : Nat) (xs : List Int) (w : World) (R1 : List ByteArray) (R2 : List (Int × ByteArray)) (cd : Int) (hP : fmP xs = ((R1, R2), cd)) (h : Ins w B A0 xs) (hB : B ≤ w.heap.size) (hn : xs.length ≤ 1048576) :
    Calls Tryz.prog 30 #[.slice A0 xs.length c0] w (RetDiskCode w R1 R2 cd) := by
  have r0 := Box.new w 38 #[.slice none 0 0, .slice none 0 0]
  have hx0 := (Nx.refl w).alloc (.cells #[.slice none 0 0, .slice none 0 0] 38)
  have hl0 := r0.lt
  go_enter Tryz.func30, Tryz.ntmps30
  by_cases h4 : 4096 < xs.length
  · have hd : decide (4096 < (xs.length : Int)) = true := decide_eq_true (by omega)
    obtain ⟨rfl, rfl, rfl⟩ := fm_inj hP (fmP_long h4)
    have s0 := r0.c0; have s1 := r0.c1; have sf0 := r0.frozen 0; have sf1 := r0.frozen 1
    go_wp2
    exact bodyPost_ret (v := .tuple #[.agg #[.slice none 0 0, .slice none 0 0], .int .i64 2]) (by simp [results, Tryz.results30, go_sem, s0, s1]) rfl ⟨none, 0, 0, none, 0, 0, rfl, SlS.nil _ _, SlW.nil _ _, hx0⟩
  have hd : decide (4096 < (xs.length : Int)) = false := decide_eq_false (by omega)
  go_wp2_with fail
  generalize w.alloc (.cells #[.slice none 0 0, .slice none 0 0] 38) = W at *
  obtain ⟨gR, HgR⟩ : ∃ g, Hid (w.heap.size = g) := ⟨_, rfl⟩
  have hgR : w.heap.size ≤ gR := by have := HgR.out; omega
  rw [HgR.out] at r0 hl0 ⊢
  refine (specContentOK_c A0 c0 B xs W (h.below hx0 hB) (Nat.le_trans hB hx0.size) hn).mono ?_
  rintro e w1 ⟨rfl, hk⟩
  have r1 := r0.nx hk
  have hx1 := hx0.trans hk
  cases hc : contB xs with
  | false =>
    obtain ⟨rfl, rfl, rfl⟩ := fm_inj hP (fmP_bad h4 hc)
    have hl1 := r1.lt
    clear hc
    have s0 := r1.c0; have s1 := r1.c1; have sf0 := r1.frozen 0; have sf1 := r1.frozen 1; have sl := r1.lt
    skip
    go_wp2
    obtain ⟨q0, q1, hSf, hWf, hxf⟩ := fin_box 0 0 r1 (SlS.nil w1 (gR + 1)) (SlW.nil w1 (gR + 1)) (by omega) (by omega) hx1 (by omega)
    generalize (w1.setCell ⟨gR, 0, none⟩ (.slice none 0 0)).setCell ⟨gR, 1, none⟩ (.slice none 0 0) = Wf at *
    exact bodyPost_ret (v := .tuple #[.agg #[.slice none 0 0, .slice none 0 0], .int .i64 1]) (by simp [results, Tryz.results30, go_sem, q0, q1]) rfl ⟨none, 0, 0, none, 0, 0, rfl, hSf, hWf, hxf⟩
  | true =>
    obtain ⟨rfl, rfl, rfl⟩ := fm_inj hP (fmP_yes hc)
    go_wp2_with fail
    refine (l05Format_c A0 c0 B xs w1 (h.below hx1 hB) (Nat.le_trans hB hx1.size) hc).mono ?_
    rintro e w2 ⟨A, n, c, A2, n2, c2, rfl, hS, hW, hk2⟩
    obtain rfl : 64 = n := (fmT_len xs 8).symm.trans hS.1
    obtain rfl : 0 = n2 := hW.1
    have r2 := r1.nx hk2
    have hx2 := hx1.trans hk2
    have hl1 := r1.lt
    have hl2 := r2.lt
    obtain ⟨gs, rfl, _⟩ := hS.2 (by omega)
    clear hc
    have s0 := r2.c0; have s1 := r2.c1; have sf0 := r2.frozen 0; have sf1 := r2.frozen 1; have sl := r2.lt
    go_wp2
    obtain ⟨q0, q1, hSf, hWf, hxf⟩ := fin_box c c2 r2 hS hW (by omega) (by omega) hx2 (by omega)
    generalize (w2.setCell ⟨gR, 0, none⟩ (.slice (some ⟨gs, 0, none⟩) 64 c)).setCell ⟨gR, 1, none⟩ (.slice A2 0 c2) = Wf at *
    exact bodyPost_ret (v := .tuple #[.agg #[.slice (some ⟨gs, 0, none⟩) 64 c, .slice A2 0 c2], .int .i64 0]) (by simp [results, Tryz.results30, go_sem, q0, q1]) rfl ⟨_, 64, c, A2, 0, c2, rfl, hSf, hWf, hxf⟩
set_option maxHeartbeats 4000000 in
theorem implFormatVault_c (A0 : Option Addr) (c0 B : Nat) (xs : List Int) (w : World) (R1 : List ByteArray) (R2 : List (Int × ByteArray)) (cd : Int) (hP : fmP xs = ((R1, R2), cd)) (h : Ins w B A0 xs) (hB : B ≤ w.heap.size) (hn : xs.length ≤ 1048576) (hT : Tab w) :
    Calls Tryz.prog 29 #[.slice A0 xs.length c0] w (RetDiskCode w R1 R2 cd) := by
  have r0 := Box.new w 38 #[.slice none 0 0, .slice none 0 0]
  have hx0 := (Nx.refl w).alloc (.cells #[.slice none 0 0, .slice none 0 0] 38)
  have hl0 := r0.lt
  go_enter Tryz.func29, Tryz.ntmps29
  go_wp2_with fail
  generalize w.alloc (.cells #[.slice none 0 0, .slice none 0 0] 38) = W at *
  obtain ⟨gR, HgR⟩ : ∃ g, Hid (w.heap.size = g) := ⟨_, rfl⟩
  have hgR : w.heap.size ≤ gR := by have := HgR.out; omega
  rw [HgR.out] at r0 hl0 ⊢
  refine (contentCode_c A0 c0 B xs W (h.below hx0 hB) (Nat.le_trans hB hx0.size) hn).mono ?_
  rintro e w0 ⟨rfl, hk0⟩
  have r0' := r0.nx hk0
  have hx0' := hx0.trans hk0
  by_cases hz : askC xs true = 0
  case neg =>
    obtain ⟨rfl, rfl, hcd⟩ := fm_inj hP (fmP_no hz)
    obtain ⟨q, Hq⟩ : ∃ q, Hid (askC xs true = q) := ⟨_, rfl⟩
    obtain rfl : cd = q := hcd.trans Hq.out
    clear hP hcd
    have hl1 := r0'.lt
    rw [Hq.out] at hz ⊢
    have hne : (cd != 0) = true := by simpa using hz
    clear hz
    have s0 := r0'.c0; have s1 := r0'.c1; have sf0 := r0'.frozen 0; have sf1 := r0'.frozen 1; have sl := r0'.lt
    skip
    go_wp2
    obtain ⟨q0, q1, hSf, hWf, hxf⟩ := fin_box 0 0 r0' (SlS.nil w0 (gR + 1)) (SlW.nil w0 (gR + 1)) (by omega) (by omega) hx0' (by omega)
    generalize (w0.setCell ⟨gR, 0, none⟩ (.slice none 0 0)).setCell ⟨gR, 1, none⟩ (.slice none 0 0) = Wf at *
    exact bodyPost_ret (v := .tuple #[.agg #[.slice none 0 0, .slice none 0 0], .int .i64 cd]) (by simp [results, Tryz.results29, go_sem, q0, q1]) rfl ⟨none, 0, 0, none, 0, 0, rfl, hSf, hWf, hxf⟩
  have hc := askC_zero hz
  obtain ⟨rfl, rfl, rfl⟩ := fm_inj hP (fmP_yes hc)
  rw [hz]
  clear hP
  have hx8 := (contB_yes hc).1
  have Hv := Lib.hid (contB_yes hc).2
  have HT := Lib.hid hT
  have h' : ∀ k, k < 8 → _ := fun k hk w' B' hw hB' => ((h.below (w' := w') (B' := B') hw hB').at_ (k := k) (by omega))
  obtain ⟨m, Hm⟩ : ∃ m, Hid (xs.length = m) := ⟨_, rfl⟩
  have hm8 : m = 8 := by have := Hm.out; omega
  rw [Hm.out]
  subst hm8
  clear hc h hx8 hz hn hT r0 hx0 hl0 hk0
  have r0 := r0'
  have hx0 := hx0'
  clear r0' hx0'
  have hl0 := r0.lt
  generalize hW0 : w0 = W0 at *
  go_wp2_with fail
  refine (implNewDisk_c W0).mono ?_
  rintro e w1 ⟨A, n, c, A2, n2, c2, rfl, hS, hW, hk1⟩
  obtain rfl : 64 = n := noS_len.symm.trans hS.1
  obtain rfl : 0 = n2 := hW.1
  obtain ⟨gs, rfl, hgs, hrow⟩ := hS.2 (by omega)
  have hd := (Nx.refl w1).alloc (.cells #[.slice (some ⟨gs, 0, none⟩) 64 c, .slice A2 0 c2] 38)
  have bD := Box.new w1 38 #[.slice (some ⟨gs, 0, none⟩) 64 c, .slice A2 0 c2]
  have hrow1 : SetRow (w1.alloc (.cells #[.slice (some ⟨gs, 0, none⟩) 64 c, .slice A2 0 c2] 38)) gs noS := by have := hrow.nx hd; unfold OwnS at this; rw [noS_len] at this; exact this
  have hN1 := hk1.trans hd
  clear hS hrow hk1 hd
  go_wp2_with fail
  generalize w1.alloc (.cells #[.slice (some ⟨gs, 0, none⟩) 64 c, .slice A2 0 c2] 38) = wD at *
  obtain ⟨gD, HgD⟩ : ∃ g, Hid (w1.heap.size = g) := ⟨_, rfl⟩
  rw [HgD.out] at bD ⊢
  have hne : gD ≠ gs := Own.ne_type hrow1 bD.own (by decide)
  refine wp_region_lex [false, false, false, true, false, true] (fun w' => w'.cell? ⟨gD, 0, none⟩ = some (.slice (some ⟨gs, 0, none⟩) 64 c)) (by kernel_rfl) (by kernel_rfl) rfl (by kernel_rfl) (fun _ _ d _ _ h => by cases d <;> exact h) (by exact bD.c0) ?_
  repeat (first | (refine HL.take (v := ?_) (by rfl) ?_ ?_; rotate_left; (· (intro w hSw; (try dsimp only at hSw); go_simp; try with_reducible rfl)); (try simp only [Act.put, List.setIfInBounds_toArray, List.set_cons_zero, List.set_cons_succ])) | (refine HL.skip (by rfl) ?_; (try simp only [Act.put, List.setIfInBounds_toArray, List.set_cons_zero, List.set_cons_succ])))
  refine HL.call (by rfl) (fun K hK => ?_)
  go_simp
  refine (superText_c 1 0 0 0 none none 0 0 0 [] [] _ (fun h => absurd h (by simp)) (fun h => absurd h (by simp)) (Nat.zero_le _) super_new (HT.out.nx (hx0.trans hN1.drew))).mono ?_; rintro e v1 ⟨rfl, hk1⟩; have hkk := (Nx.refl wD).drew.trans hk1; have b1 := bD.nx hkk; have hr1 : SetRow v1 gs noS := Own.nx hrow1 hkk; have hN2 := hN1.trans hkk; have hcl := hr1.cell (i := 0) (by omega); have hcf := hr1.frozen 0
  go_wp2_with fail
  refine hK.out _ _ (by exact b1.c0) ?_
  clear hK K
  try simp only [Act.put, List.setIfInBounds_toArray, List.set_cons_zero, List.set_cons_succ]
  repeat (first | (refine HL.take (v := ?_) (by rfl) ?_ ?_; rotate_left; (· (intro w hSw; (try dsimp only at hSw); go_simp; try with_reducible rfl)); (try simp only [Act.put, List.setIfInBounds_toArray, List.set_cons_zero, List.set_cons_succ])) | (refine HL.skip (by rfl) ?_; (try simp only [Act.put, List.setIfInBounds_toArray, List.set_cons_zero, List.set_cons_succ])))
  refine HL.call (by rfl) (fun K hK => ?_)
  go_simp
  refine hK.out _ _ (by exact (b1.far (p := ⟨gs, 0, none⟩) hne (.string (supT 1 0 0 0 [] []))).c0) ?_
  clear hK K
  try simp only [Act.put, List.setIfInBounds_toArray, List.set_cons_zero, List.set_cons_succ]
  refine HL.done ?_
  have hrow4 : SetRow (v1.setCell ⟨gs, 0, none⟩ (.string (supT 1 0 0 0 [] []))) gs (fmT xs 0) := SetRow.set hr1 (by omega) noS_len
  have bD4 := b1.far (p := ⟨gs, 0, none⟩) hne (.string (supT 1 0 0 0 [] []))
  have hN4 := hN2.setCell (p := ⟨gs, 0, none⟩) hgs (.string (supT 1 0 0 0 [] []))
  clear hcl hcf hr1 b1 hN2 hrow1 bD hN1
  unfold supT at hrow4 bD4 hN4
  generalize v1.setCell ⟨gs, 0, none⟩ (.string (sealS (numsS (supN 1 0 0 0 []) ++ ⟨#[124]⟩ ++ jn (wds [])))) = W4 at *
  go_wp2_with fail
  go_loopw [22] (fun i wr => ∃ k : Nat, k ≤ 8 ∧ i = .int .i64 k ∧ SetRow wr gs (fmT xs k) ∧ Box wr gD 38 #[.slice (some ⟨gs, 0, none⟩) 64 c, .slice A2 0 c2] ∧ Nx W0 wr) (fun i _ => 8 - (intOf i).toNat)
  case atStart => exact ⟨0, by omega, rfl, hrow4, bD4, hN4⟩
  case round =>
    obtain ⟨k, hk, rfl, hrow, bD, hN⟩ := hrel
    clear hrow4 bD4 hN4
    have hlen := fmT_len xs k
    by_cases hlt : k < 8
    case neg =>
      obtain rfl : k = 8 := by omega
      have hx5 := hx0.trans hN
      have r5 := r0.nx hN
      have d0 := bD.c0
      have d1 := bD.c1
      have hSS : SlS wr (gR + 1) (some ⟨gs, 0, none⟩) 64 (fmT xs 8) := ⟨hlen, fun _ => ⟨gs, rfl, by omega, by unfold OwnS; rw [hlen]; exact hrow⟩⟩
      have hWW : SlW wr (gR + 1) A2 0 [] := ⟨rfl, fun h => absurd h (by omega)⟩
      have s0 := r5.c0; have s1 := r5.c1; have sf0 := r5.frozen 0; have sf1 := r5.frozen 1; have sl := r5.lt
      go_wp2
      obtain ⟨q0, q1, hSf, hWf, hxf⟩ := fin_box c c2 r5 hSS hWW (by omega) (by omega) hx5 (by omega)
      generalize (wr.setCell ⟨gR, 0, none⟩ (.slice (some ⟨gs, 0, none⟩) 64 c)).setCell ⟨gR, 1, none⟩ (.slice A2 0 c2) = Wf at *
      exact bodyPost_ret (v := .tuple #[.agg #[.slice (some ⟨gs, 0, none⟩) 64 c, .slice A2 0 c2], .int .i64 0]) (by simp [results, Tryz.results29, go_sem, q0, q1]) rfl ⟨_, 64, c, A2, 0, c2, rfl, hSf, hWf, hxf⟩
    obtain ⟨bb, off, rfl, hbb, p00⟩ := h' k hlt _ _ hx0 hB
    have hv := Hv.out k hlt
    obtain ⟨q, Hq⟩ : ∃ q : Nat, Hid (xs.getD k 0 = (q : Int)) := ⟨(xs.getD k 0).toNat, Lib.hid (by omega)⟩
    have hq9 : q ≤ 999999 := by have := Hq.out; omega
    rw [Hq.out] at p00
    clear hv
    have hbg : bb < W0.heap.size := Nat.lt_of_lt_of_le hbb (Nat.le_trans hB hx0.size)
    have p0 := (hN.cell (p := ⟨bb, off + k, none⟩) hbg).trans p00
    obtain ⟨z, Hz⟩ : ∃ z : Nat, Hid (2 + k = z) := ⟨_, rfl⟩
    have h2k : (2 : Int) + (k : Int) = (z : Int) := by have := Hz.out; omega
    have hz64 : z < 64 := by have := Hz.out; omega
    have hzi : (z : Int) < 64 := by omega
    have hwz : IntKind.i64.wrap (z : Int) = (z : Int) := IntWalk.i64_in _ (by omega)
    have HO6 : Hid (All6 [q]) := Lib.hid (fun j hj => by obtain rfl : j = 0 := (by simpa using hj); exact hq9)
    go_wp2_with fail
    refine wp_region_lex [false, false, false, false, false, true, true, true, false, true] (fun w' => w'.cell? ⟨gD, 0, none⟩ = some (.slice (some ⟨gs, 0, none⟩) 64 c)) (by kernel_rfl) (by kernel_rfl) rfl (by kernel_rfl) (fun _ _ d _ _ h => by cases d <;> exact h) (by exact bD.c0) ?_
    repeat (first | (refine HL.take (v := ?_) (by rfl) ?_ ?_; rotate_left; (· (intro w hSw; (try dsimp only at hSw); go_simp; try with_reducible rfl)); (try simp only [Act.put, List.setIfInBounds_toArray, List.set_cons_zero, List.set_cons_succ])) | (refine HL.skip (by rfl) ?_; (try simp only [Act.put, List.setIfInBounds_toArray, List.set_cons_zero, List.set_cons_succ])))
    refine HL.call (by rfl) (fun K hK => ?_)
    go_simp
    refine hK.out _ _ (by exact (bD.nx ((Nx.refl wr).drew.alloc (.cells #[.int .i64 (q : Int)] 3))).c0) ?_
    clear hK K
    try simp only [Act.put, List.setIfInBounds_toArray, List.set_cons_zero, List.set_cons_succ]
    refine HL.call (by rfl) (fun K hK => ?_)
    go_simp
    have ka := (Nx.refl wr).drew.alloc (.cells #[.int .i64 (q : Int)] 3); have bN := Box.new wr.drew 3 #[.int .i64 (q : Int)]; refine (numbersText_c (some ⟨wr.heap.size, 0, none⟩) 1 (wr.heap.size + 1) [q] _ (fun _ => ⟨wr.heap.size, 0, rfl, by omega, fun i hi => by obtain rfl : i = 0 := (by simpa using hi); exact bN.cell 0⟩) (by show wr.heap.size + 1 ≤ (wr.alloc (.cells #[.int .i64 (q : Int)] 3)).heap.size; rw [World.size_alloc]; exact Nat.le_refl _) HO6.out (by simp) (by simp)).mono ?_; rintro e v1 ⟨rfl, hk1⟩; have kb := ka.trans hk1; have b1 := bD.nx kb
    go_wp2_with fail
    refine hK.out _ _ (by exact b1.c0) ?_
    clear hK K
    try simp only [Act.put, List.setIfInBounds_toArray, List.set_cons_zero, List.set_cons_succ]
    refine HL.call (by rfl) (fun K hK => ?_)
    go_simp
    refine (sealed_c (numsS [q]) _ (by rw [numsS_size]; simp)).mono ?_; rintro e v2 ⟨rfl, hk2⟩; have kc := kb.trans hk2; have b2 := bD.nx kc; have hr2 : SetRow v2 gs (fmT xs k) := Own.nx hrow kc; have hN2 := hN.trans kc; have hcl := hr2.cell (i := z) (by omega); have hcf := hr2.frozen z
    go_wp2_with fail
    refine hK.out _ _ (by exact b2.c0) ?_
    clear hK K
    try simp only [Act.put, List.setIfInBounds_toArray, List.set_cons_zero, List.set_cons_succ]
    repeat (first | (refine HL.take (v := ?_) (by rfl) ?_ ?_; rotate_left; (· (intro w hSw; (try dsimp only at hSw); go_simp; try with_reducible rfl)); (try simp only [Act.put, List.setIfInBounds_toArray, List.set_cons_zero, List.set_cons_succ])) | (refine HL.skip (by rfl) ?_; (try simp only [Act.put, List.setIfInBounds_toArray, List.set_cons_zero, List.set_cons_succ])))
    refine HL.call (by rfl) (fun K hK => ?_)
    go_simp
    refine hK.out _ _ (by exact (b2.far (p := ⟨gs, z, none⟩) hne (.string (sealS (numsS [q])))).c0) ?_
    clear hK K
    try simp only [Act.put, List.setIfInBounds_toArray, List.set_cons_zero, List.set_cons_succ]
    refine HL.done ?_
    have hr3 : SetRow (v2.setCell ⟨gs, z, none⟩ (.string (sealS (numsS [q])))) gs (fmT xs (k + 1)) := by
      have := hr2.set (a := z) (s := sealS (numsS [q])) (by omega) hlen
      have e : fmT xs (k + 1) = (fmT xs k).set z (sealS (numsS [q])) := by show (fmT xs k).set (2 + k) (sealS (numsS [(xs.getD k 0).toNat])) = _; rw [Hq.out, Hz.out]; rfl
      rw [e]; exact this
    have b3 := b2.far (p := ⟨gs, z, none⟩) hne (.string (sealS (numsS [q])))
    have hN3 := hN2.setCell (p := ⟨gs, z, none⟩) hgs (.string (sealS (numsS [q])))
    clear hcl hcf hr2 b1 b2 hN2 p0 p00 ka kb kc bN
    generalize v2.setCell ⟨gs, z, none⟩ (.string (sealS (numsS [q]))) = W9 at *
    go_wp2
    go_roundw
    case rel => exact ⟨k + 1, by omega, by go_num, hr3, b3, hN3⟩
    case measure => simp [intOf]; omega
end Go.Proofs.YtehahodomfbpjaaGreatDoor
/- Rows of segments of the call's own: they grow by one, and their last one is turned. Conditions: those of each theorem. -/
namespace Go.Proofs.YtehahodomfbpjaaGreatDoor
set_option linter.unusedVariables false
set_option maxRecDepth 100000
open Go.RowKit

def gCs (g : SgR) : List Value := [.int .i64 g.f, .int .i64 g.t, .int .i64 g.m, .slice g.A g.cs.length g.c]
def gVs (gs : List SgR) : List Value := gs.flatMap gCs
theorem gVs_len : ∀ gs : List SgR, (gVs gs).length = gs.length * 4
  | [] => rfl
  | g :: gs => by
    show (gCs g ++ gVs gs).length = _
    rw [List.length_append, gVs_len gs, List.length_cons]
    unfold gCs
    simp only [List.length_cons, List.length_nil]; omega
theorem gVs_snoc (gs : List SgR) (g : SgR) : gVs (gs ++ [g]) = gVs gs ++ gCs g := by
  unfold gVs; rw [List.flatMap_append]; simp
theorem gVs_get : ∀ (gs : List SgR) (i : Nat), i < gs.length * 4 → (gVs gs)[i]? = some (sgAt gs i)
  | [], i, h => by simp at h
  | g :: gs, i, h => by
    show (gCs g ++ gVs gs)[i]? = _
    by_cases hi : i < 4
    · rw [List.getElem?_append_left (by simpa [gCs] using hi)]
      match i, hi with
      | 0, _ => rfl
      | 1, _ => rfl
      | 2, _ => rfl
      | 3, _ => rfl
    · rw [List.getElem?_append_right (by simpa [gCs] using hi)]
      show (gVs gs)[i - 4]? = _
      rw [gVs_get gs (i - 4) (by simp at h; omega)]
      have e1 : (i - 4) % 4 = i % 4 := by omega
      have e2 : i / 4 = (i - 4) / 4 + 1 := by omega
      unfold sgAt
      rw [e1, e2, List.getD_cons_succ]
/-- The changes of segments lie in blocks of the call's own, from block B on. -/
def ChO (w : World) (B : Nat) (gs : List SgR) : Prop := ∀ k, k < gs.length → Sl w B (gs.getD k sgZ).A 202 ((gs.getD k sgZ).cs.length * 3) (chAt (gs.getD k sgZ).cs)
theorem ChO.nx {w w' : World} {B : Nat} {gs : List SgR} (h : ChO w B gs) (hb : Nx w w') : ChO w' B gs := fun k hk => (h k hk).nx hb
theorem Sl.rgO {w w' : World} {lo a b : Nat} {A : Option Addr} {t : TypeId} {m : Nat} {f : Nat → Value} (h : Sl w lo A t m f) (hb : Rg a b w w') (hd : b ≤ lo) : Sl w' lo A t m f := fun hm => by
  obtain ⟨g, e, hl, ho⟩ := h hm; exact ⟨g, e, hl, ho.rg hb (.inr (by omega))⟩
theorem ChO.rg {w w' : World} {B a b : Nat} {gs : List SgR} (h : ChO w B gs) (hb : Rg a b w w') (hd : b ≤ B) : ChO w' B gs := fun k hk => (h k hk).rgO hb hd
theorem ChO.snoc {w : World} {B : Nat} {gs : List SgR} {g : SgR} (h : ChO w B gs) (hg : Sl w B g.A 202 (g.cs.length * 3) (chAt g.cs)) : ChO w B (gs ++ [g]) := fun k hk => by
  rw [List.length_append] at hk
  simp only [List.length_cons, List.length_nil] at hk
  by_cases e : k < gs.length
  · rw [getD_pre gs [g] e]; exact h k e
  · obtain rfl : k = gs.length := by omega
    rw [getD_app]; exact hg
/-- A row of segments of the call's own, from block B on. -/
def RowS (w : World) (B : Nat) (v : Value) (gs : List SgR) : Prop := w.ownsRow B 130 4 v gs.length (gVs gs)
theorem RowS.new (w : World) {B : Nat} (hB : B ≤ w.heap.size) : RowS (w.alloc (.cells #[] 130)) B (.slice (some ⟨w.heap.size, 0, none⟩) 0 0) [] :=
  ⟨rfl, .inr ⟨_, 0, #[], rfl, hB, heap_alloc_new w _, by simp, by unfold maxLen; omega, rfl, rfl⟩⟩
theorem RowS.sl {w : World} {B : Nat} {v : Value} {gs : List SgR} (h : RowS w B v gs) : ∃ A c, v = .slice A gs.length c ∧ Sl w B A 130 (gs.length * 4) (sgAt gs) := by
  rcases h.2 with ⟨rfl, h0⟩ | ⟨g, cap, cur, rfl, hb, hg, hnc, _, hcs, htk⟩
  · exact ⟨none, 0, by rw [h0], fun hn => by omega⟩
  · refine ⟨_, cap, rfl, Sl.own ⟨cur, hg, by have := Nat.mul_le_mul_right 4 hnc; omega, fun i hi => ?_⟩ hb⟩
    have h1 : (cur.toList.take (gs.length * 4))[i]? = some (sgAt gs i) := by rw [htk]; exact gVs_get gs i hi
    rw [List.getElem?_take_of_lt hi] at h1
    simpa using h1
theorem RowS.nx {w w' : World} {B : Nat} {v : Value} {gs : List SgR} (h : RowS w B v gs) (hb : Nx w w') : RowS w' B v gs := by
  refine World.ownsRow.kept (row := none) h ⟨hb.os, hb.tape, hb.output, hb.size, fun i hi _ => hb.block i hi⟩ ?_
  cases hv : v.ownBlock with
  | none => exact .inl rfl
  | some g => exact .inr (by simp)
theorem RowS.rg {w w' : World} {B lo hi : Nat} {v : Value} {gs : List SgR} (h : RowS w B v gs) (hr : Rg lo hi w w') (hh : hi ≤ B) : RowS w' B v gs := by
  rcases h.2 with ⟨rfl, h0⟩ | ⟨g, cap, cur, rfl, hb, hg, r⟩
  · exact ⟨h.1, .inl ⟨rfl, h0⟩⟩
  · have hlt := (World.ownsRow.lt h g rfl).2
    exact ⟨h.1, .inr ⟨g, cap, cur, rfl, hb, (hr.block g hlt (.inr (by omega))).trans hg, r⟩⟩
theorem RowS.ne {w : World} {B g : Nat} {v : Value} {gs : List SgR} {t : TypeId} {m : Nat} {f : Nat → Value} (h : RowS w B v gs) (hb : Own w g t m f) (ht : t ≠ 130) : some g ≠ v.ownBlock := by
  intro he
  rcases h.2 with ⟨rfl, _⟩ | ⟨g', cap, cur, rfl, _, hg, _⟩
  · simp [Value.ownBlock] at he
  · obtain rfl : g = g' := by simpa [Value.ownBlock] using he
    obtain ⟨cs, hb, _⟩ := hb
    rw [hg] at hb
    injection hb with hb
    injection hb with _ hb
    exact ht hb.symm
/-- What an append of a segment leaves as it is. -/
structure GrewS (B : Nat) (w w' : World) : Prop where
  nx : ∀ a, Nx a w → a.heap.size ≤ B → Nx a w'
  rg : ∀ lo hi a, Rg lo hi a w → a.heap.size ≤ B → Rg lo hi a w'
  own : ∀ g t m f, t ≠ 130 → Own w g t m f → Own w' g t m f
  box : ∀ g t xs, t ≠ 130 → Box w g t xs → Box w' g t xs
  size : w.heap.size ≤ w'.heap.size
  low : Below B w w'
theorem GrewS.sl {B : Nat} {w w' : World} (h : GrewS B w w') {lo : Nat} {A : Option Addr} {t : TypeId} {m : Nat} {f : Nat → Value} (hs : Sl w lo A t m f) (ht : t ≠ 130) : Sl w' lo A t m f := fun hm => by
  obtain ⟨g, e, hl, ho⟩ := hs hm
  exact ⟨g, e, hl, h.own g t m f ht ho⟩
theorem GrewS.cho {B B' : Nat} {w w' : World} (h : GrewS B w w') {gs : List SgR} (hs : ChO w B' gs) : ChO w' B' gs := fun k hk => h.sl (hs k hk) (by decide)
set_option maxHeartbeats 1000000 in
/-- append of one segment at the operation, for the walk. -/
theorem wpList_addS {w : World} {ops : Array Oper} {rest : List Oper} {o : Oper} {a : Act} {Q : Exit → Act → World → Prop}
    (hgd : o.guard = none) (s x : Operand) (ho : o.op = .call { callee := .builtin .append, args := #[s, x], argTypes := #[31, 31] })
    (B gd : Nat) (v : Value) (gs : List SgR) (g : SgR) (hs : a.eval s = v) (hx : a.eval x = .slice (some ⟨gd, 0, none⟩) 1 1) (hown : RowS w B v gs) (hbx : Box w gd 130 #[.int .i64 g.f, .int .i64 g.t, .int .i64 g.m, .slice g.A g.cs.length g.c])
    (hl : gs.length ≤ 1048576) (hB : B ≤ w.heap.size)
    (hK : ∀ A' k' w', RowS w' B (.slice A' (gs.length + 1) k') (gs ++ [g]) → GrewS B w w' → wpList Tryz.prog ops Q rest (a.put o.dst (.slice A' (gs.length + 1) k')) w') :
    wpList Tryz.prog ops Q (o :: rest) a w := by
  obtain ⟨i0, hi0, hz0, hz1, hz2⟩ := info_parts info_sg
  refine wpList_append_own w hgd s x 31 ho B 130 i0 _ 4 48 Tryz.underlying31 hi0 hz0 hz1 hz2 rfl (by omega) v gs.length _ hs hown ⟨gd, 0, none⟩ 1 1 (gCs g) hx rfl (fun j u hj => ?_) (fun u hu => by unfold gCs at hu; simp only [List.mem_cons, List.not_mem_nil, or_false] at hu; rcases hu with rfl | rfl | rfl | rfl <;> rfl) (by unfold maxLen; omega) (by omega) hB ?_
  · rw [addr_add', Nat.zero_add, hbx.cell j]
    rw [← hj]
    unfold gCs
    rcases j with _ | _ | _ | _ | j <;> simp
  · intro v' w' hw' hg' _
    have hr : RowS w' B v' (gs ++ [g]) := by
      unfold RowS
      rw [gVs_snoc, List.length_append]
      exact hw'
    obtain ⟨A', k', rfl, _⟩ := hr.sl
    rw [List.length_append] at hr ⊢
    have hrow : ∀ k, Value.ownBlock v = some k → B ≤ k := fun k hk => (World.ownsRow.lt hown k hk).1
    have hown' : ∀ g t m f, t ≠ 130 → Own w g t m f → Own w' g t m f := fun g t m f ht ho => ho.of_block (hg'.block g ho.lt (hown.ne ho ht))
    refine hK A' k' w' hr ⟨fun b hb hbB => Below.grown hb hg' hb.size (fun k hk => Nat.le_trans hbB (hrow k hk)), fun lo hi b hb hbB => ?_, hown', fun g t xs ht hbg => ?_, hg'.size, ⟨hg'.os, hg'.tape, hg'.output, hg'.size, fun k hk => hg'.block k (by omega) (fun e => by have := hrow k e.symm; omega)⟩⟩
    · refine ⟨hg'.os.trans hb.os, hg'.tape.trans hb.tape, hg'.output.trans hb.output, Nat.le_trans hb.size hg'.size, fun k hk hr => (hg'.block k (Nat.lt_of_lt_of_le hk hb.size) fun e => ?_).trans (hb.block k hk hr)⟩
      have := hrow k e.symm
      omega
    · exact hbg.grown hg' (hown.ne hbg.own ht)
theorem RowS.mk {w : World} {B g cap : Nat} {gs : List SgR} {cur : Array Value} (hB : B ≤ g) (hb : Box w g 130 cur) (h1 : gs.length ≤ cap) (h2 : cap ≤ maxLen) (h3 : cur.size = cap * 4) (h : ∀ i, i < gs.length * 4 → cur[i]? = some (sgAt gs i)) : RowS w B (.slice (some ⟨g, 0, none⟩) gs.length cap) gs := by
  refine ⟨gVs_len gs, .inr ⟨g, cap, cur, rfl, hB, hb, h1, h2, h3, ?_⟩⟩
  refine List.ext_getElem? fun i => ?_
  by_cases hi : i < gs.length * 4
  · rw [List.getElem?_take_of_lt hi, gVs_get gs i hi]
    simpa using h i hi
  · rw [List.getElem?_eq_none (by rw [List.length_take]; omega), List.getElem?_eq_none (by rw [gVs_len]; omega)]
theorem set4_at (cur : Array Value) (a : Nat) (v0 v1 v2 v3 : Value) (h : a + 4 ≤ cur.size) :
    ((((cur.setIfInBounds a v0).setIfInBounds (a + 1) v1).setIfInBounds (a + 2) v2).setIfInBounds (a + 3) v3)[a]? = some v0 ∧ ((((cur.setIfInBounds a v0).setIfInBounds (a + 1) v1).setIfInBounds (a + 2) v2).setIfInBounds (a + 3) v3)[a + 1]? = some v1
    ∧ ((((cur.setIfInBounds a v0).setIfInBounds (a + 1) v1).setIfInBounds (a + 2) v2).setIfInBounds (a + 3) v3)[a + 2]? = some v2 ∧ ((((cur.setIfInBounds a v0).setIfInBounds (a + 1) v1).setIfInBounds (a + 2) v2).setIfInBounds (a + 3) v3)[a + 3]? = some v3 := by
  refine ⟨?_, ?_, ?_, ?_⟩
  · rw [Array.getElem?_setIfInBounds_ne (by omega), Array.getElem?_setIfInBounds_ne (by omega), Array.getElem?_setIfInBounds_ne (by omega), Array.getElem?_setIfInBounds, if_pos rfl, if_pos (by omega)]
  · rw [Array.getElem?_setIfInBounds_ne (by omega), Array.getElem?_setIfInBounds_ne (by omega), Array.getElem?_setIfInBounds, if_pos rfl, if_pos (by rw [Array.size_setIfInBounds]; omega)]
  · rw [Array.getElem?_setIfInBounds_ne (by omega), Array.getElem?_setIfInBounds, if_pos rfl, if_pos (by rw [Array.size_setIfInBounds, Array.size_setIfInBounds]; omega)]
  · rw [Array.getElem?_setIfInBounds, if_pos rfl, if_pos (by rw [Array.size_setIfInBounds, Array.size_setIfInBounds, Array.size_setIfInBounds]; omega)]
/-- The last one is turned. -/
def putG (w : World) (g k : Nat) (x : SgR) : World := (((w.setCell ⟨g, k * 4, none⟩ (.int .i64 x.f)).setCell ⟨g, k * 4 + 1, none⟩ (.int .i64 x.t)).setCell ⟨g, k * 4 + 2, none⟩ (.int .i64 x.m)).setCell ⟨g, k * 4 + 3, none⟩ (.slice x.A x.cs.length x.c)
theorem RowS.put {w : World} {B g cap : Nat} {gs : List SgR} {y : SgR} (h : RowS w B (.slice (some ⟨g, 0, none⟩) (gs.length + 1) cap) (gs ++ [y])) (x : SgR) :
    RowS (putG w g gs.length x) B (.slice (some ⟨g, 0, none⟩) (gs.length + 1) cap) (gs ++ [x]) ∧ GrewS B w (putG w g gs.length x) := by
  have hl1 : ∀ z : SgR, (gs ++ [z]).length = gs.length + 1 := fun z => by simp
  rcases h.2 with ⟨he, _⟩ | ⟨g', cap', cur, he, hb, hg, hnc, hmx, hsz, htk⟩
  · cases he
  · injection he with e1 e2 e3
    injection e1 with e1
    injection e1 with e1
    subst e1 e3
    rw [hl1] at hnc htk
    have hcell : ∀ i, i < (gs.length + 1) * 4 → cur[i]? = some (sgAt (gs ++ [y]) i) := fun i hi => by
      have h1 : (cur.toList.take ((gs.length + 1) * 4))[i]? = some (sgAt (gs ++ [y]) i) := by rw [htk]; exact gVs_get _ i (by rw [hl1]; exact hi)
      rw [List.getElem?_take_of_lt hi] at h1
      simpa using h1
    have hbox : Box w g 130 cur := hg
    have hb4 := (((hbox.set (gs.length * 4) (.int .i64 x.f)).set (gs.length * 4 + 1) (.int .i64 x.t)).set (gs.length * 4 + 2) (.int .i64 x.m)).set (gs.length * 4 + 3) (.slice x.A x.cs.length x.c)
    have hg4 : (gs ++ [x]).getD gs.length sgZ = x := getD_app gs x
    have hlen : gs.length * 4 + 4 ≤ cur.size := by rw [hsz]; have := Nat.mul_le_mul_right 4 hnc; omega
    obtain ⟨t0, t1, t2, t3⟩ := set4_at cur (gs.length * 4) (.int .i64 x.f) (.int .i64 x.t) (.int .i64 x.m) (.slice x.A x.cs.length x.c) hlen
    refine ⟨?_, ?_⟩
    · have := RowS.mk (gs := gs ++ [x]) (cap := cap) hb hb4 (by rw [hl1]; exact hnc) hmx (by simp [hsz]) fun i hi => ?_
      · rw [hl1] at this; exact this
      · rw [hl1] at hi
        by_cases h3 : i = gs.length * 4 + 3
        · subst h3; rw [sgAt3, hg4]; exact t3
        · by_cases h2 : i = gs.length * 4 + 2
          · subst h2; rw [sgAt2, hg4]; exact t2
          · by_cases h1 : i = gs.length * 4 + 1
            · subst h1; rw [sgAt1, hg4]; exact t1
            · by_cases h0 : i = gs.length * 4
              · subst h0; rw [sgAt0, hg4]; exact t0
              · rw [sgAt_app gs [x] i (by omega), ← sgAt_app gs [y] i (by omega), ← hcell i (by omega)]
                rw [Array.getElem?_setIfInBounds_ne (by omega), Array.getElem?_setIfInBounds_ne (by omega), Array.getElem?_setIfInBounds_ne (by omega), Array.getElem?_setIfInBounds_ne (by omega)]
    · have hblk : ∀ k, k ≠ g → (putG w g gs.length x).heap[k]? = w.heap[k]? := fun k hk => by
        unfold putG
        rw [Below.heap_setCell _ _ _ _ hk, Below.heap_setCell _ _ _ _ hk, Below.heap_setCell _ _ _ _ hk, Below.heap_setCell _ _ _ _ hk]
      have hsize : w.heap.size ≤ (putG w g gs.length x).heap.size := by unfold putG; simp [World.setCell]
      have hlow : Below B w (putG w g gs.length x) := ⟨rfl, rfl, rfl, hsize, fun k hk => hblk k (by omega)⟩
      refine ⟨fun a ha haB => ⟨ha.os, ha.tape, ha.output, Nat.le_trans ha.size hsize, fun k hk => (hblk k (by omega)).trans (ha.block k hk)⟩,
        fun lo hi a ha haB => ⟨ha.os, ha.tape, ha.output, Nat.le_trans ha.size hsize, fun k hk hr => (hblk k (by omega)).trans (ha.block k hk hr)⟩,
        fun g2 t m f ht ho => ho.of_block (hblk g2 fun e => ?_), fun g2 t xs ht hbx => (hblk g2 fun e => ?_).trans hbx, hsize, hlow⟩
      · subst e
        obtain ⟨cs, ho, _⟩ := ho
        rw [hg] at ho
        injection ho with ho
        injection ho with _ ho
        exact ht ho.symm
      · subst e
        unfold Box at hbx
        rw [hg] at hbx
        injection hbx with hbx
        injection hbx with _ hbx
        exact ht hbx.symm
/-- A content that is read: an older one, or one of the call's own. -/
def CI (w : World) (g B : Nat) (A : Option Addr) (x : List Int) : Prop := Ins w g A x ∨ SlI w B A x
section
variable {w w' : World} {g B : Nat} {A : Option Addr} {x : List Int}
theorem CI.nx (h : CI w g B A x) (hb : Nx w w') (hg : g ≤ w.heap.size) : CI w' g B A x := by
  rcases h with h | h
  · exact .inl (h.below hb hg)
  · exact .inr (Sl.nx h hb)
theorem CI.rg (h : CI w g B A x) (hb : Rg g (g + 1) w w') (hg : g ≤ w.heap.size) (hB : g + 1 ≤ B) : CI w' g B A x := by
  rcases h with h | h
  · exact .inl (h.below (hb.below hg) (Nat.le_refl _))
  · exact .inr (Sl.rgO h hb hB)
end
end Go.Proofs.YtehahodomfbpjaaGreatDoor
/- Contracts of the program's functions that read the segments and the image of a disk. Conditions: the disk is right and can be read; the table is one; the package's errors are known. -/
namespace Go.Proofs.YtehahodomfbpjaaGreatDoor
set_option linter.unusedVariables false
set_option maxRecDepth 100000
open Go.RowKit

/-- What reading the segments leaves: an error, or all of them. -/
def RetSG (w : World) (ss : List ByteArray) (ws : List (Int × ByteArray)) (xs : List Int) (a0 : Addr) (e : Ending) (w' : World) : Prop :=
  Nx w w' ∧ (((∃ k, k < xs.length ∧ ldG ss ws (xs.getD k 0) = none) ∧ e = .returned (.tuple #[.slice none 0 0, .iface 304 (.pointer (some a0))]))
    ∨ ∃ A c gs, e = .returned (.tuple #[.slice A gs.length c, .nilIface]) ∧ GsTo ss ws xs xs.length gs ∧ gs.length ≤ c ∧ SgO w' w.heap.size A gs ∧ Dj gs)
theorem RowS.sgoc {w : World} {B : Nat} {v : Value} {gs : List SgR} (h : RowS w B v gs) (hc : ChO w B gs) : ∃ A c, v = .slice A gs.length c ∧ gs.length ≤ c ∧ SgO w B A gs := by
  have hsl := h.sl
  rcases h.2 with ⟨rfl, h0⟩ | ⟨g, cap, cur, rfl, hb, hg, hnc, _, hcs, htk⟩
  · exact ⟨none, 0, by rw [h0], by omega, ⟨fun hn => by omega, hc⟩⟩
  · obtain ⟨A, c, e, hs⟩ := hsl
    injection e with e1 e2 e3
    subst e1 e3
    exact ⟨_, _, rfl, hnc, hs, hc⟩
theorem RowS.nil (w : World) (B : Nat) : RowS w B (.slice none 0 0) [] := ⟨rfl, .inl ⟨rfl, rfl⟩⟩
theorem ChO.nil (w : World) (B : Nat) : ChO w B [] := fun k hk => absurd hk (by simp)
theorem tb_at {xs : List Int} (h : tbB xs = true) {k : Nat} (hk : k < xs.length) : ∃ a : Nat, xs.getD k 0 = (a : Int) ∧ 10 ≤ a ∧ a < 64 := by
  have h1 : xs.getD k 0 ∈ xs := by rw [List.getD_eq_getElem?_getD, List.getElem?_eq_getElem hk]; exact List.getElem_mem hk
  have := tbB_in h h1
  exact ⟨(xs.getD k 0).toNat, by omega, by omega, by omega⟩
set_option maxHeartbeats 4000000 in
theorem segsIn_c (A A2 A3 : Option Addr) (n c n2 c2 c3 B : Nat) (ss : List ByteArray) (ws : List (Int × ByteArray)) (xs : List Int) (w : World) (a0 a1 : Addr) (h : Strs w B A n ss) (h2 : Wrs w B A2 n2 ws) (h3 : Ins w B A3 xs) (hB : B ≤ w.heap.size) (hn : n ≤ 1048576) (hn2 : n2 ≤ 1048576)
    (hD : diskB ss ws = true) (ht : tbB xs = true) (hE : Er w a0 a1) :
    Calls Tryz.prog 132 #[.agg #[.slice A n c, .slice A2 n2 c2], .slice A3 xs.length c3] w (RetSG w ss ws xs a0) := by
  have b0 := Box.new w 38 #[.slice A n c, .slice A2 n2 c2]
  have hx0 := (Nx.refl w).alloc (.cells #[.slice A n c, .slice A2 n2 c2] 38)
  have hn64 : 64 ≤ n := by have := (diskB_len64 hD).1; have := h.1; omega
  have HDs := Lib.hid (fun a => readP_size hD a)
  have Hta := Lib.hid (fun k (hk : k < xs.length) => tb_at ht hk)
  have hm20 := (tbB_yes ht).1
  have HRet := Lib.hid (fun (e : Ending) (w' : World) (h : RetSG w ss ws xs a0 e w') => h)
  have HSn := Lib.hid (fun k gs q (h1 : GsTo ss ws xs k gs) (h2 : k < xs.length) (h3 : ldG ss ws (xs.getD k 0) = some q) (A c) => h1.snoc h2 h3 A c)
  obtain ⟨m, Hm⟩ : ∃ m, Hid (xs.length = m) := ⟨_, rfl⟩
  have h3' : ∀ k, k < m → _ := fun k hk w' B' hw hB' => ((h3.below (w' := w') (B' := B') hw hB').at_ (k := k) (by rw [Hm.out]; exact hk))
  rw [Hm.out] at Hta hm20 HSn ⊢
  clear hD ht h3
  go_enter Tryz.func132, Tryz.ntmps132
  go_wp2_with fail
  generalize w.alloc (.cells #[.slice A n c, .slice A2 n2 c2] 38) = W at *
  go_loopw [6, 13] (fun v i wr => ∃ (k : Nat) (gs : List SgR), k ≤ m ∧ i = .int .i64 k ∧ (∃ u, u = v ∧ RowS wr w.heap.size u gs) ∧ ChO wr w.heap.size gs ∧ Dj gs ∧ GsTo ss ws xs k gs ∧ Nx w wr ∧ Box wr w.heap.size 38 #[.slice A n c, .slice A2 n2 c2]) (fun _ i _ => m - (intOf i).toNat)
  case atStart => exact ⟨0, [], by omega, rfl, ⟨_, rfl, RowS.nil _ _⟩, ChO.nil _ _, Dj.nil, GsTo.nil _ _ _, hx0, b0⟩
  case round =>
    obtain ⟨k, gs, hk, rfl, ⟨u, rfl, hrow⟩, hcho, hdj, hgs, hnx, hb⟩ := hrel
    clear b0 hx0
    have HDj := Lib.hid hdj
    have HGs := Lib.hid hgs
    have Hlen := Lib.hid hgs.len
    clear hdj hgs
    by_cases hlt : k < m
    case neg =>
      obtain rfl : k = m := by omega
      obtain ⟨A', c', rfl, hc', hS⟩ := hrow.sgoc hcho
      have HF : Hid (RetSG w ss ws xs a0 (.returned (.tuple #[.slice A' gs.length c', .nilIface])) wr) := Lib.hid ⟨hnx, .inr ⟨A', c', gs, rfl, by rw [Hm.out]; exact HGs.out, hc', hS, HDj.out⟩⟩
      clear hrow hcho hS hc'
      go_wp2
      go_ret2
      exact HF.out
    obtain ⟨a, ha, ha1, ha2⟩ := Hta.out k hlt
    obtain ⟨bb, off, rfl, hbb, p0⟩ := h3' k hlt _ _ hnx hB
    rw [ha] at p0
    have HG : Hid (ldG ss ws (xs.getD k 0) = rdG (readP ss ws a)) := Lib.hid (by rw [ha]; rfl)
    clear ha
    have hc0 := hb.c0
    have hc1 := hb.c1
    go_wp2_with fail
    refine (newest_c A A2 n c n2 c2 B a ss ws _ (h.below hnx hB) (h2.below hnx hB) (Nat.le_trans hB hnx.size) (by omega) hn hn2).mono ?_
    rintro e w1 ⟨rfl, hk1⟩
    have hrow1 := hrow.nx hk1
    have hcho1 := hcho.nx hk1
    have hnx1 := hnx.trans hk1
    have hb1 := hb.nx hk1
    clear hrow hcho hnx hb hc0 hc1 p0
    go_wp2_with fail
    refine (segOfText_c (readP ss ws a) _ a0 a1 (by have := HDs.out a; omega) (hE.nx hnx1)).mono ?_
    rintro e w2 ⟨hk2, hno, hyes⟩
    have hrow2 := hrow1.nx hk2
    have hcho2 := hcho1.nx hk2
    have hnx2 := hnx1.trans hk2
    have hb2 := hb1.nx hk2
    have HC1 := Lib.hid hcho1
    clear hrow1 hcho1 hb1
    cases hr : rdG (readP ss ws a) with
    | none =>
      obtain rfl := hno hr
      have HF : Hid (ldG ss ws (xs.getD k 0) = none) := Lib.hid (by rw [HG.out, hr])
      clear hno hyes hr
      go_wp2
      go_ret2
      exact ⟨by first | exact hnx2 | exact hnx2.alloc _, .inl ⟨⟨k, by rw [Hm.out]; exact hlt, HF.out⟩, rfl⟩⟩
    | some q =>
      obtain ⟨Ag, cg, rfl, hSl⟩ := hyes q hr
      have HF : Hid (ldG ss ws (xs.getD k 0) = some q) := Lib.hid (by rw [HG.out, hr])
      clear hno hyes hr
      obtain ⟨q0, q1, q2, cs⟩ := q
      simp only at hSl
      have hd1 := HDj.out.snoc (g := ⟨q0, q1, q2, Ag, cg, cs⟩) HC1.out hSl
      have HD1 := Lib.hid hd1
      have HG1 := Lib.hid (HSn.out k gs _ HGs.out hlt HF.out Ag cg)
      have hSl' := hSl.low (lo' := w.heap.size) hnx1.size
      clear hd1 hSl
      have hz3 := ((Nx.refl w2).alloc (.cells #[.int .i64 q0, .int .i64 q1, .int .i64 q2, .slice Ag cs.length cg] 130)).alloc (.cells #[.int .i64 q0, .int .i64 q1, .int .i64 q2, .slice Ag cs.length cg] 130)
      have hrow3 := hrow2.nx hz3
      have hcho3 := hcho2.nx hz3
      have hnx3 := hnx2.trans hz3
      have hb3 := hb2.nx hz3
      have hSl3 := hSl'.nx hz3
      have bN := Box.new (w2.alloc (.cells #[.int .i64 q0, .int .i64 q1, .int .i64 q2, .slice Ag cs.length cg] 130)) 130 #[.int .i64 q0, .int .i64 q1, .int .i64 q2, .slice Ag cs.length cg]
      have HR3 := Lib.hid hrow3
      have HB3 := Lib.hid bN
      have hl9 : gs.length ≤ 1048576 := by have := Hlen.out; omega
      have hsz3 : w.heap.size ≤ ((w2.alloc (.cells #[.int .i64 q0, .int .i64 q1, .int .i64 q2, .slice Ag cs.length cg] 130)).alloc (.cells #[.int .i64 q0, .int .i64 q1, .int .i64 q2, .slice Ag cs.length cg] 130)).heap.size := hnx3.size
      clear hrow2 hcho2 hb2 hSl' hrow3 bN
      simp only [World.size_alloc] at HB3
      go_wp2_with (at_builtin; refine wpList_addS rfl _ _ rfl w.heap.size (w2.heap.size + 1) _ gs ⟨q0, q1, q2, Ag, cg, cs⟩ rfl rfl HR3.out HB3.out hl9 hsz3 ?_)
      intro A9 k9 w9 hrow9 hgr
      have hnx9 := hgr.nx w hnx3 (Nat.le_refl _)
      have hcho9 := (hgr.cho hcho3).snoc (g := ⟨q0, q1, q2, Ag, cg, cs⟩) (hgr.sl hSl3 (by decide))
      have hb9 := hgr.box _ _ _ (by decide) hb3
      clear hcho3 hSl3 hb3 hgr HR3 HB3
      go_wp2
      go_roundw
      case rel => exact ⟨k + 1, gs ++ [⟨q0, q1, q2, Ag, cg, cs⟩], by omega, by go_num, ⟨_, rfl, hrow9⟩, hcho9, HD1.out, HG1.out, hnx9, hb9⟩
      case measure => simp [intOf]; omega
/-- What reading the image leaves: an error, or the image. -/
def RetIG (w : World) (ss : List ByteArray) (ws : List (Int × ByteArray)) (a0 : Addr) (e : Ending) (w' : World) : Prop :=
  Nx w w' ∧ (((∃ j, j < 8 ∧ ldI ss ws j = none) ∧ e = .returned (.tuple #[.slice none 0 0, .iface 304 (.pointer (some a0))]))
    ∨ ∃ A c im, e = .returned (.tuple #[.slice A im.length c, .nilIface]) ∧ ImTo ss ws 8 im ∧ SlI w' w.heap.size A im)
theorem oneN_no {ns : List Nat} (h : ns.length ≠ 1) : oneN (some ns) = none := by
  unfold oneN
  split
  · rename_i e; injection e with e; subst e; simp at h
  · rfl
set_option maxHeartbeats 4000000 in
theorem image_c (A A2 : Option Addr) (n c n2 c2 B : Nat) (ss : List ByteArray) (ws : List (Int × ByteArray)) (w : World) (a0 a1 : Addr) (h : Strs w B A n ss) (h2 : Wrs w B A2 n2 ws) (hB : B ≤ w.heap.size) (hn : n ≤ 1048576) (hn2 : n2 ≤ 1048576)
    (hD : diskB ss ws = true) (hE : Er w a0 a1) :
    Calls Tryz.prog 133 #[.agg #[.slice A n c, .slice A2 n2 c2]] w (RetIG w ss ws a0) := by
  have b0 := Box.new w 38 #[.slice A n c, .slice A2 n2 c2]
  have hx0 := (Nx.refl w).alloc (.cells #[.slice A n c, .slice A2 n2 c2] 38)
  have hn64 : 64 ≤ n := by have := (diskB_len64 hD).1; have := h.1; omega
  have HDs := Lib.hid (fun a => readP_size hD a)
  clear hD
  go_enter Tryz.func133, Tryz.ntmps133
  go_wp2_with fail
  generalize w.alloc (.cells #[.slice A n c, .slice A2 n2 c2] 38) = W at *
  go_loopw [4, 8] (fun v i wr => ∃ (k : Nat) (im : List Int), k ≤ 8 ∧ i = .int .i64 k ∧ (∃ u, u = v ∧ RowI wr w.heap.size u im) ∧ ImTo ss ws k im ∧ Nx w wr ∧ Box wr w.heap.size 38 #[.slice A n c, .slice A2 n2 c2]) (fun _ i _ => 8 - (intOf i).toNat)
  case atStart => exact ⟨0, [], by omega, rfl, ⟨_, rfl, RowI.nil _ _⟩, ImTo.nil _ _, hx0, b0⟩
  case round =>
    obtain ⟨k, im, hk, rfl, ⟨u, rfl, hrow⟩, him, hnx, hb⟩ := hrel
    clear b0 hx0
    have HIm := Lib.hid him
    have Hlen := Lib.hid him.len
    clear him
    by_cases hlt : k < 8
    case neg =>
      obtain rfl : k = 8 := by omega
      obtain ⟨A', c', rfl, hc', hS⟩ := hrow.slc
      have HF : Hid (RetIG w ss ws a0 (.returned (.tuple #[.slice A' im.length c', .nilIface])) wr) := Lib.hid ⟨hnx, .inr ⟨A', c', im, rfl, HIm.out, hS⟩⟩
      clear hrow hS hc'
      go_wp2
      go_ret2
      exact HF.out
    have HG : Hid (ldI ss ws k = oneN (rdN (readP ss ws (2 + k)))) := Lib.hid rfl
    have hc0 := hb.c0
    have hc1 := hb.c1
    go_wp2_with fail
    rw [show ((2 : Int) + (k : Int)) = ((2 + k : Nat) : Int) by omega]
    refine (newest_c A A2 n c n2 c2 B (2 + k) ss ws _ (h.below hnx hB) (h2.below hnx hB) (Nat.le_trans hB hnx.size) (by omega) hn hn2).mono ?_
    rintro e w1 ⟨rfl, hk1⟩
    have hrow1 := hrow.nx hk1
    have hnx1 := hnx.trans hk1
    have hb1 := hb.nx hk1
    clear hrow hnx hb hc0 hc1
    go_wp2_with fail
    refine (sealedNumbers_c (readP ss ws (2 + k)) _ a0 a1 (by have := HDs.out (2 + k); omega) (hE.nx hnx1)).mono ?_
    rintro e w2 ⟨hk2, hno, hyes⟩
    have hrow2 := hrow1.nx hk2
    have hnx2 := hnx1.trans hk2
    have hb2 := hb1.nx hk2
    clear hrow1 hb1
    cases hr : rdN (readP ss ws (2 + k)) with
    | none =>
      obtain rfl := hno hr
      have HF : Hid (ldI ss ws k = none) := Lib.hid (by rw [HG.out, hr]; rfl)
      clear hno hyes hr
      go_wp2
      go_ret2
      exact ⟨hnx2, .inl ⟨⟨k, hlt, HF.out⟩, rfl⟩⟩
    | some ns =>
      obtain ⟨Ag, cg, rfl, hR, hcg⟩ := hyes ns hr
      by_cases h1 : ns.length = 1
      case neg =>
        have HF : Hid (ldI ss ws k = none) := Lib.hid (by rw [HG.out, hr]; exact oneN_no h1)
        have hne : ((ns.length : Int) != 1) = true := by rw [bne_iff_ne]; omega
        obtain ⟨e0, _⟩ := hE.nx hnx2
        clear hno hyes hr hR
        go_wp2
        go_quiet (fail)
        go_wp2
        go_ret2
        exact ⟨hnx2.drewN _, .inl ⟨⟨k, hlt, HF.out⟩, rfl⟩⟩
      obtain ⟨x, rfl⟩ : ∃ x, ns = [x] := by
        match ns, h1 with
        | [x], _ => exact ⟨x, rfl⟩
      have HF : Hid (ldI ss ws k = some (x : Int)) := Lib.hid (by rw [HG.out, hr]; rfl)
      obtain ⟨bb, off, rfl, hbb, hcell⟩ := hR (by simp)
      have p0 : w2.cell? ⟨bb, off, none⟩ = some (.int .i64 (x : Int)) := hcell 0 (by simp)
      have HI1 := Lib.hid (HIm.out.snoc HF.out)
      clear hno hyes hr hR hcell h1
      have hz3 := (Nx.refl w2).alloc (.cells #[.int .i64 (x : Int)] 3)
      have HR3 := Lib.hid (hrow2.nx hz3)
      have HB3 := Lib.hid (Box.new w2 3 #[.int .i64 (x : Int)])
      have hnx3 := hnx2.trans hz3
      have hb3 := hb2.nx hz3
      have hl9 : im.length ≤ 1048576 := by have := Hlen.out; omega
      have hsz3 := hnx3.size
      clear hrow2 hb2
      simp only [List.length_cons, List.length_nil] at hcg ⊢
      go_wp2_with (at_builtin; refine wpList_addI rfl _ _ rfl w.heap.size w2.heap.size _ im (x : Int) rfl rfl HR3.out HB3.out hl9 hsz3 ?_)
      intro A9 k9 w9 hrow9 hgr
      have hnx9 := hgr.nx w hnx3 (Nat.le_refl _)
      have hb9 := hgr.box _ _ _ (by decide) hb3
      clear hb3 hgr HR3 HB3
      go_wp2
      go_roundw
      case rel => exact ⟨k + 1, im ++ [(x : Int)], by omega, by go_num, ⟨_, rfl, hrow9⟩, HI1.out, hnx9, hb9⟩
      case measure => simp [intOf]; omega
end Go.Proofs.YtehahodomfbpjaaGreatDoor
/- What vaults that are alike have in common. Conditions: what is read can be read, and holds at most 1048576 elements of a kind. -/
namespace Go.Proofs.YtehahodomfbpjaaGreatDoor
set_option linter.unusedVariables false
set_option maxRecDepth 100000
open Go.RowKit

section
variable {gs hs : List SgR} (hv : gs.map SgR.v = hs.map SgR.v)
include hv
theorem retL_v (b : Int) : retL b gs = retL b hs := by
  have : gs.map SgR.t = hs.map SgR.t := by
    have := congrArg (List.map (fun q : Sg4 => q.2.1)) hv
    rw [List.map_map, List.map_map] at this
    exact this
  unfold retL; rw [this]
theorem isRet_v (b n : Int) : isRet b gs n = isRet b hs n := by unfold isRet; rw [retL_v hv, v_len hv]
theorem ahd_v (b n : Int) : ahd b gs n = ahd b hs n := by unfold ahd; rw [retL_v hv]
theorem stp_v (b p t : Int) (im : List Int) : stp b p t gs im = stp b p t hs im := by
  unfold stp
  rw [ahd_v hv, (v_parts hv (ahd b hs p)).2.2.2, (v_parts hv (ahd b hs p - 1)).2.2.2]
theorem fwK_v (c : List Int) (a : Nat) : ∀ j, fwK c gs a j = fwK c hs a j
  | 0 => rfl
  | j + 1 => by show app pN _ _ = app pN _ _; rw [fwK_v c a j, (v_parts hv (a + j)).2.2.2]
theorem bkK_v (c : List Int) (a : Nat) : ∀ j, bkK c gs a j = bkK c hs a j
  | 0 => rfl
  | j + 1 => by show app pO _ _ = app pO _ _; rw [bkK_v c a j, (v_parts hv (a - 1 - j)).2.2.2]
theorem fitF_v (c : List Int) (a : Nat) : fitF c gs a = fitF c hs a := by
  unfold fitF
  rw [v_len hv]
  congr 1
  funext j
  unfold oldB
  rw [fwK_v hv, (v_parts hv (a + j)).2.2.2]
theorem fitB_v (c : List Int) (a : Nat) : fitB c gs a = fitB c hs a := by
  unfold fitB
  congr 1
  funext j
  unfold newB
  rw [bkK_v hv, (v_parts hv (a - 1 - j)).2.2.2]
theorem plcB_v (b p t : Int) (ms : List Mrk) : plcB b p t gs ms = plcB b p t hs ms := by
  unfold plcB mksR
  rw [isRet_v hv, isRet_v hv]
  congr 2
  congr 1
  funext k
  exact isRet_v hv b _
theorem vltB_v (g b p t : Int) (xs : List Int) (ms : List Mrk) (im : List Int) : vltB g b p t xs ms gs im = vltB g b p t xs ms hs im := by
  unfold vltB
  rw [v_len hv, chainB_v hv, plcB_v hv, stp_v hv, fitF_v hv, fitB_v hv]
theorem cntV_v (b p t : Int) (im : List Int) (n : Int) : cntV b p t gs im n = cntV b p t hs im n := by
  unfold cntV
  rw [stp_v hv, ahd_v hv, fwK_v hv, bkK_v hv]
end
theorem VlS.ok {V V' : Vl} (h : VlS V V') : V.ok = V'.ok := by
  unfold Vl.ok
  rw [h.g, h.b, h.p, h.t, h.xs, h.ms, h.im, vltB_v h.gs]
end Go.Proofs.YtehahodomfbpjaaGreatDoor
/- Contracts of the program's vault (of a disk) and of LoadVault. Conditions: the disk can be read, and holds at most 1048576 elements of a kind; the package's errors are known, the library's variables MaxLen and errorType too. -/
namespace Go.Proofs.YtehahodomfbpjaaGreatDoor
set_option linter.unusedVariables false
set_option maxRecDepth 100000
open Go.RowKit

theorem Sr.rowfar {w : World} {lo hi m g : Nat} {A : Option Addr} {t : TypeId} {f : Nat → Value} (h : Sr w lo hi A t m f) (hg : g < lo) (ds : Array Value) : Sr (w.setRow g ds) lo hi A t m f := fun hm => by
  obtain ⟨k, e, hl, hh, ho⟩ := h hm; exact ⟨k, e, hl, hh, ho.rowfar (by omega) ds⟩
theorem VlP.rowfar {w : World} {lo mid hi g : Nat} {V : Vl} (h : VlP w lo mid hi V) (hg : g < lo) (ds : Array Value) : VlP (w.setRow g ds) lo mid hi V :=
  have h' : g < mid := Nat.lt_of_lt_of_le hg h.le
  ⟨h.tab.rowfar hg ds, h.mks.rowfar hg ds, h.row.rowfar h' ds, fun k hk => (h.chs k hk).rowfar h' ds, h.img.rowfar h' ds, h.dj, h.cap, h.cap3, h.le, h.le2⟩
theorem newU_super {ss : List ByteArray} {ws : List (Int × ByteArray)} {g b p q s : Int} {xs : List Int} {ms : List Mrk} (h : newU (rdU (readP ss ws 0)) (rdU (readP ss ws 1)) = some ((g, b, p, q, xs, ms), s)) : superB g b p q xs ms = true := by
  rcases newU_from h with e | e
  · exact rdU_super e
  · exact rdU_super e
/-- What is read of a right disk is a small vault. -/
theorem ld_small {ss : List ByteArray} {ws : List (Int × ByteArray)} {g b p q : Int} {xs : List Int} {ms : List Mrk} {gs : List SgR} {im : List Int} (hD : diskB ss ws = true) (hs : superB g b p q xs ms = true) (hg : GsTo ss ws xs xs.length gs) (hi : ImTo ss ws 8 im) (Ax : Option Addr) (cx : Nat) (Am : Option Addr) (cm : Nat) (Ag : Option Addr) (cg : Nat) (Ai : Option Addr) (ci : Nat) :
    VlN ⟨g, b, p, q, Ax, cx, xs, Am, cm, ms, Ag, cg, gs, Ai, ci, im⟩ 1048576 ∧ AllM ms := by
  obtain ⟨_, _, _, _, h5, h6⟩ := superB_yes hs
  have h1 := (tbB_yes h5).1
  have h2 := (msB_yes h6).1
  have h3 := hg.len
  have h4 := hi.len
  refine ⟨⟨show xs.length ≤ _ by omega, show ms.length ≤ _ by omega, show gs.length ≤ _ by omega, fun k hk => ?_, show im.length ≤ _ by omega⟩, msB_all h6⟩
  have hk' : k < gs.length := hk
  have hv := v_at (gs := gs) (hs := xs.map (ldS ss ws)) (by rw [hg.v, List.take_length, List.map_map]; rfl) k
  have hkx : k < xs.length := by omega
  have e : (xs.map (ldS ss ws)).getD k sgZ = ldS ss ws xs[k] := by
    rw [List.getD_eq_getElem?_getD, List.getElem?_map, List.getElem?_eq_getElem hkx]; rfl
  rw [e] at hv
  have hv2 : (gs.getD k sgZ).cs = (ldS ss ws xs[k]).cs := congrArg (fun q : Sg4 => q.2.2.2) hv
  show (gs.getD k sgZ).cs.length ≤ 1048576
  rw [hv2]
  unfold ldS
  cases hq : ldG ss ws xs[k] with
  | none => exact Nat.zero_le _
  | some q =>
    have h7 := rdG_short hq
    have h8 := readP_size hD xs[k].toNat
    show q.2.2.2.length ≤ 1048576
    omega
set_option maxHeartbeats 4000000 in
theorem diskVault_c (A A2 : Option Addr) (n c n2 c2 B : Nat) (ss : List ByteArray) (ws : List (Int × ByteArray)) (w : World) (a0 a1 : Addr) (h : Strs w B A n ss) (h2 : Wrs w B A2 n2 ws) (hB : B ≤ w.heap.size) (hn : n ≤ 1048576) (hn2 : n2 ≤ 1048576) (hD : diskB ss ws = true) (hE : Er w a0 a1) (hM : Mx w) (hEt : Et w) :
    Calls Tryz.prog 59 #[.agg #[.slice A n c, .slice A2 n2 c2]] w (RetLd w (ldV ss ws)) := by
  have r0 : Box ((w.alloc (.cells #[.slice A n c, .slice A2 n2 c2] 38)).alloc (.cells #[.int .i64 0, .int .i64 0, .int .i64 0, .int .i64 0, .slice none 0 0, .slice none 0 0, .slice none 0 0, .slice none 0 0] 33)) (w.heap.size + 1) 33 #[.int .i64 0, .int .i64 0, .int .i64 0, .int .i64 0, .slice none 0 0, .slice none 0 0, .slice none 0 0, .slice none 0 0] := by have := Box.new (w.alloc (.cells #[.slice A n c, .slice A2 n2 c2] 38)) 33 #[.int .i64 0, .int .i64 0, .int .i64 0, .int .i64 0, .slice none 0 0, .slice none 0 0, .slice none 0 0, .slice none 0 0]; rwa [World.size_alloc] at this
  have e0 : Box ((w.alloc (.cells #[.slice A n c, .slice A2 n2 c2] 38)).alloc (.cells #[.int .i64 0, .int .i64 0, .int .i64 0, .int .i64 0, .slice none 0 0, .slice none 0 0, .slice none 0 0, .slice none 0 0] 33)) w.heap.size 38 #[.slice A n c, .slice A2 n2 c2] := (Box.new w _ _).alloc _
  have hx0 := ((Nx.refl w).alloc (.cells #[.slice A n c, .slice A2 n2 c2] 38)).alloc (.cells #[.int .i64 0, .int .i64 0, .int .i64 0, .int .i64 0, .slice none 0 0, .slice none 0 0, .slice none 0 0, .slice none 0 0] 33)
  go_enter Tryz.func59, Tryz.ntmps59
  go_wp2_with fail
  generalize (w.alloc (.cells #[.slice A n c, .slice A2 n2 c2] 38)).alloc (.cells #[.int .i64 0, .int .i64 0, .int .i64 0, .int .i64 0, .slice none 0 0, .slice none 0 0, .slice none 0 0, .slice none 0 0] 33) = W at *
  obtain ⟨gR, Hg⟩ : ∃ g, Hid (w.heap.size + 1 = g) := ⟨_, rfl⟩
  have hgR : w.heap.size ≤ gR := by have := Hg.out; omega
  have hgR1 : w.heap.size < gR := by have := Hg.out; omega
  rw [Hg.out] at r0 ⊢
  have hltR0 := r0.lt
  have h1n : 1 < n := by have := (diskB_len64 hD).1; have := h.1; omega
  have HD := Lib.hid hD
  clear hD
  have z0 := e0.c0
  have z1 := e0.c1
  go_wp2_with fail
  refine (newestSuper_c A A2 n c n2 c2 B ss ws _ a0 a1 (h.below hx0 hB) (h2.below hx0 hB) (Nat.le_trans hB hx0.size) h1n hn hn2 (by have := readP_size HD.out 0; omega) (by have := readP_size HD.out 1; omega) (hE.nx hx0) (hM.nx hx0) (hEt.nx hx0)).mono ?_
  rintro e w2 ⟨hnx2, h1, h2'⟩
  have r2 := r0.nx hnx2
  have e2 := e0.nx hnx2
  have hx2 := hx0.trans hnx2
  have hltR : gR < W.heap.size := hltR0
  have hlt2 := r2.lt
  clear r0 e0 z0 z1 hltR0
  cases hu : newU (rdU (readP ss ws 0)) (rdU (readP ss ws 1)) with
  | none =>
    have HA := Lib.hid (ldV_none hu)
    have he := h1 hu
    unfold slE at he
    subst he
    clear h1 h2' hu
    go_wp2_with fail
    have r3 := r2.alloc (.cells #[.int .i64 0, .int .i64 0, .int .i64 0, .int .i64 0, .slice none 0 0, .slice none 0 0] 30)
    have hx3 := hx2.alloc (.cells #[.int .i64 0, .int .i64 0, .int .i64 0, .int .i64 0, .slice none 0 0, .slice none 0 0] 30)
    change Calls _ _ _ (w2.alloc (.cells #[.int .i64 0, .int .i64 0, .int .i64 0, .int .i64 0, .slice none 0 0, .slice none 0 0] 30)) _
    generalize w2.alloc (.cells #[.int .i64 0, .int .i64 0, .int .i64 0, .int .i64 0, .slice none 0 0, .slice none 0 0] 30) = w3 at *
    refine (slotCode_c 1 19 _ (hEt.nx hx3)).mono ?_
    rintro e w4 ⟨rfl, hnx4⟩
    have r4 := r3.nx hnx4
    have hx4 := hx3.trans hnx4
    have rq := r4.row #[.int .i64 0, .int .i64 0, .int .i64 0, .int .i64 0, .slice none 0 0, .slice none 0 0, .slice none 0 0, .slice none 0 0]
    have hnf := hx4.setRow hgR #[.int .i64 0, .int .i64 0, .int .i64 0, .int .i64 0, .slice none 0 0, .slice none 0 0, .slice none 0 0, .slice none 0 0]
    go_wp2_with (refine wpList_store_row rfl _ _ _ rfl gR #[.int .i64 0, .int .i64 0, .int .i64 0, .int .i64 0, .slice none 0 0, .slice none 0 0, .slice none 0 0, .slice none 0 0] rfl rfl 33 #[.int .i64 0, .int .i64 0, .int .i64 0, .int .i64 0, .slice none 0 0, .slice none 0 0, .slice none 0 0, .slice none 0 0] r4 (by kernel_rfl) rfl (by simp [Value.oneCell']) ?_)
    generalize w4.setRow gR #[.int .i64 0, .int .i64 0, .int .i64 0, .int .i64 0, .slice none 0 0, .slice none 0 0, .slice none 0 0, .slice none 0 0] = Wf at *
    obtain ⟨g0, g1, g2, g3, g4, g5, g6, g7⟩ := rq.e8
    exact bodyPost_ret (v := .tuple #[.agg #[.int .i64 0, .int .i64 0, .int .i64 0, .int .i64 0, .slice none 0 0, .slice none 0 0, .slice none 0 0, .slice none 0 0], .int .i64 19]) (by simp [results, Tryz.results59, go_sem, g0, g1, g2, g3, g4, g5, g6, g7]) rfl ⟨zVl, w.heap.size, by rw [HA.out]; rfl, by rw [HA.out]; exact VlS.refl _, VlP.zero _ hnf.size, hnf⟩
  | some us =>
    obtain ⟨⟨g, b, p, q, xs, ms⟩, sl⟩ := us
    obtain ⟨Ax, cx, Am, cm, he, hcc, hS1, hM1⟩ := h2' _ _ hu
    replace he : e = .returned (.tuple #[.agg #[.int .i64 g, .int .i64 b, .int .i64 p, .int .i64 q, .slice Ax xs.length cx, .slice Am ms.length cm], .int .i64 sl, .nilIface]) := he
    replace hS1 : SlI w2 W.heap.size Ax xs := hS1
    replace hM1 : SlM w2 W.heap.size Am ms := hM1
    replace hcc : xs.length ≤ cx := hcc
    have HCC := Lib.hid hcc
    have HU := Lib.hid hu
    have hsup := newU_super hu
    have HSup := Lib.hid hsup
    have htb := (superB_yes hsup).2.2.2.2.1
    subst he
    clear h1 h2' hu hcc hsup
    have hz3 := (Nx.refl w2).alloc (.cells #[.int .i64 g, .int .i64 b, .int .i64 p, .int .i64 q, .slice Ax xs.length cx, .slice Am ms.length cm] 30)
    have s3 := Box.new w2 30 #[.int .i64 g, .int .i64 b, .int .i64 p, .int .i64 q, .slice Ax xs.length cx, .slice Am ms.length cm]
    have r3 := r2.nx hz3
    have e3 := e2.nx hz3
    have hx3 := hx2.trans hz3
    have hS3 := (hS1.sr.nx hz3).up hz3.size
    have hM3 := (hM1.sr.nx hz3).up hz3.size
    have hT3 := hS1.row.below hz3 (Nat.le_refl _)
    have hzz : w2.heap.size < (w2.alloc (.cells #[.int .i64 g, .int .i64 b, .int .i64 p, .int .i64 q, .slice Ax xs.length cx, .slice Am ms.length cm] 30)).heap.size := by simp
    have hlW : W.heap.size ≤ (w2.alloc (.cells #[.int .i64 g, .int .i64 b, .int .i64 p, .int .i64 q, .slice Ax xs.length cx, .slice Am ms.length cm] 30)).heap.size := Nat.le_trans hnx2.size hz3.size
    obtain ⟨y0, y1, y2, y3, y4, y5⟩ := s3.d6
    have z0 := e3.c0
    have z1 := e3.c1
    clear r2 e2 hx2 hS1 hM1
    go_wp2_with fail
    generalize w2.alloc (.cells #[.int .i64 g, .int .i64 b, .int .i64 p, .int .i64 q, .slice Ax xs.length cx, .slice Am ms.length cm] 30) = w3 at *
    obtain ⟨gS, HgS⟩ : ∃ g, Hid (w2.heap.size = g) := ⟨_, rfl⟩
    rw [HgS.out] at s3 hzz hT3 y0 y1 y2 y3 y4 y5 ⊢
    refine (segsIn_c A A2 Ax n c n2 c2 cx gS ss ws xs _ a0 a1 (h.below hx3 hB |>.more (Nat.le_of_lt (Nat.lt_of_le_of_lt hB (by have := hnx2.size; have := hx0.size; have := HgS.out; omega)))) (h2.below hx3 hB |>.more (by have := hnx2.size; have := hx0.size; have := HgS.out; omega)) hT3 (Nat.le_of_lt hzz) hn hn2 HD.out htb (hE.nx hx3)).mono ?_
    rintro e w4 ⟨hk4, hret⟩
    have r4 := r3.nx hk4
    have e4 := e3.nx hk4
    have s4 := s3.nx hk4
    have hx4 := hx3.trans hk4
    have hS4 := hS3.nx hk4
    have hM4 := hM3.nx hk4
    clear r3 e3 s3 hS3 hM3 z0 z1 y0 y1 y2 y3 y4 y5
    rcases hret with ⟨⟨k, hk, hno⟩, rfl⟩ | ⟨Ag, cg, gs, rfl, hgs, hcg, hSg, hdj⟩
    · have HA := Lib.hid (ldV_seg HU.out hk hno)
      clear hno hk
      have rq := r4.row #[.int .i64 0, .int .i64 0, .int .i64 0, .int .i64 0, .slice none 0 0, .slice none 0 0, .slice none 0 0, .slice none 0 0]
      have hnf := hx4.setRow hgR #[.int .i64 0, .int .i64 0, .int .i64 0, .int .i64 0, .slice none 0 0, .slice none 0 0, .slice none 0 0, .slice none 0 0]
      go_wp2_with (refine wpList_store_row rfl _ _ _ rfl gR #[.int .i64 0, .int .i64 0, .int .i64 0, .int .i64 0, .slice none 0 0, .slice none 0 0, .slice none 0 0, .slice none 0 0] rfl rfl 33 #[.int .i64 0, .int .i64 0, .int .i64 0, .int .i64 0, .slice none 0 0, .slice none 0 0, .slice none 0 0, .slice none 0 0] r4 (by kernel_rfl) rfl (by simp [Value.oneCell']) ?_)
      generalize w4.setRow gR #[.int .i64 0, .int .i64 0, .int .i64 0, .int .i64 0, .slice none 0 0, .slice none 0 0, .slice none 0 0, .slice none 0 0] = Wf at *
      obtain ⟨g0, g1, g2, g3, g4, g5, g6, g7⟩ := rq.e8
      exact bodyPost_ret (v := .tuple #[.agg #[.int .i64 0, .int .i64 0, .int .i64 0, .int .i64 0, .slice none 0 0, .slice none 0 0, .slice none 0 0, .slice none 0 0], .int .i64 10]) (by simp [results, Tryz.results59, go_sem, g0, g1, g2, g3, g4, g5, g6, g7]) rfl ⟨zVl, w.heap.size, by rw [HA.out]; rfl, by rw [HA.out]; exact VlS.refl _, VlP.zero _ hnf.size, hnf⟩
    have HGs := Lib.hid hgs
    have HDj := Lib.hid hdj
    have HCG := Lib.hid hcg
    clear hgs hdj hcg
    have z0 := e4.c0
    have z1 := e4.c1
    go_wp2_with fail
    refine (image_c A A2 n c n2 c2 B ss ws _ a0 a1 (h.below hx4 hB) (h2.below hx4 hB) (Nat.le_trans hB hx4.size) hn hn2 HD.out (hE.nx hx4)).mono ?_
    rintro e w5 ⟨hk5, hret⟩
    have r5 := r4.nx hk5
    have s5 := s4.nx hk5
    have hx5 := hx4.trans hk5
    have hS5 := hS4.nx hk5
    have hM5 := hM4.nx hk5
    have hSg5 := hSg.nx hk5
    have hl4 : w3.heap.size ≤ w4.heap.size := hk4.size
    clear r4 e4 s4 hS4 hM4 z0 z1 hSg
    rcases hret with ⟨⟨k, hk, hno⟩, rfl⟩ | ⟨Ai, ci, im, rfl, him, hSi⟩
    · have HA := Lib.hid (ldV_img HU.out hk hno)
      clear hno hk
      have rq := r5.row #[.int .i64 0, .int .i64 0, .int .i64 0, .int .i64 0, .slice none 0 0, .slice none 0 0, .slice none 0 0, .slice none 0 0]
      have hnf := hx5.setRow hgR #[.int .i64 0, .int .i64 0, .int .i64 0, .int .i64 0, .slice none 0 0, .slice none 0 0, .slice none 0 0, .slice none 0 0]
      go_wp2_with (refine wpList_store_row rfl _ _ _ rfl gR #[.int .i64 0, .int .i64 0, .int .i64 0, .int .i64 0, .slice none 0 0, .slice none 0 0, .slice none 0 0, .slice none 0 0] rfl rfl 33 #[.int .i64 0, .int .i64 0, .int .i64 0, .int .i64 0, .slice none 0 0, .slice none 0 0, .slice none 0 0, .slice none 0 0] r5 (by kernel_rfl) rfl (by simp [Value.oneCell']) ?_)
      generalize w5.setRow gR #[.int .i64 0, .int .i64 0, .int .i64 0, .int .i64 0, .slice none 0 0, .slice none 0 0, .slice none 0 0, .slice none 0 0] = Wf at *
      obtain ⟨g0, g1, g2, g3, g4, g5, g6, g7⟩ := rq.e8
      exact bodyPost_ret (v := .tuple #[.agg #[.int .i64 0, .int .i64 0, .int .i64 0, .int .i64 0, .slice none 0 0, .slice none 0 0, .slice none 0 0, .slice none 0 0], .int .i64 10]) (by simp [results, Tryz.results59, go_sem, g0, g1, g2, g3, g4, g5, g6, g7]) rfl ⟨zVl, w.heap.size, by rw [HA.out]; rfl, by rw [HA.out]; exact VlS.refl _, VlP.zero _ hnf.size, hnf⟩
    have HIm := Lib.hid him
    clear him
    have hz6 := (Nx.refl w5).alloc (.cells #[.int .i64 g, .int .i64 b, .int .i64 p, .int .i64 q, .slice Ax xs.length cx, .slice Am ms.length cm, .slice Ag gs.length cg, .slice Ai im.length ci] 33)
    have v6 := Box.new w5 33 #[.int .i64 g, .int .i64 b, .int .i64 p, .int .i64 q, .slice Ax xs.length cx, .slice Am ms.length cm, .slice Ag gs.length cg, .slice Ai im.length ci]
    have r6 := r5.nx hz6
    have hx6 := hx5.trans hz6
    have hP6 : VlP (w5.alloc (.cells #[.int .i64 g, .int .i64 b, .int .i64 p, .int .i64 q, .slice Ax xs.length cx, .slice Am ms.length cm, .slice Ag gs.length cg, .slice Ai im.length ci] 33)) W.heap.size w3.heap.size (w5.alloc (.cells #[.int .i64 g, .int .i64 b, .int .i64 p, .int .i64 q, .slice Ax xs.length cx, .slice Am ms.length cm, .slice Ag gs.length cg, .slice Ai im.length ci] 33)).heap.size ⟨g, b, p, q, Ax, cx, xs, Am, cm, ms, Ag, cg, gs, Ai, ci, im⟩ :=
      ⟨hS5.nx hz6, hM5.nx hz6, (hSg5.row.sr.nx hz6).up hz6.size, fun k hk => ((hSg5.chs k hk).sr.nx hz6).up hz6.size, ((hSi.low hl4).sr.nx hz6).up hz6.size, HDj.out, HCC.out, HCG.out, hlW, by have := hk4.size; have := hk5.size; have := hz6.size; omega⟩
    obtain ⟨y0, y1, y2, y3, y4, y5⟩ := s5.d6
    obtain ⟨x0, x1, x2, x3, x4, x5, x6, x7⟩ := v6.e8
    clear r5 hx5 hS5 hM5 hSg5 hSi
    go_wp2_with fail
    generalize w5.alloc (.cells #[.int .i64 g, .int .i64 b, .int .i64 p, .int .i64 q, .slice Ax xs.length cx, .slice Am ms.length cm, .slice Ag gs.length cg, .slice Ai im.length ci] 33) = w6 at *
    obtain ⟨gV, HgV⟩ : ∃ g, Hid (w5.heap.size = g) := ⟨_, rfl⟩
    rw [HgV.out] at v6 x0 x1 x2 x3 x4 x5 x6 x7 ⊢
    clear y0 y1 y2 y3 y4 y5 x0 x1 x2 x3 x4 x5 x6 x7 s5
    obtain ⟨hNs, hAm⟩ := ld_small HD.out HSup.out HGs.out HIm.out Ax cx Am cm Ag cg Ai ci
    have HW := Lib.hid (ldW_s (g := g) (b := b) (p := p) (t := q) (ms := ms) HGs.out HIm.out Ax cx Am cm Ag cg Ai ci)
    have HOk := Lib.hid (ldOk_of (u := (g, b, p, q, xs, ms)) HGs.out HIm.out)
    refine (vaultRight_c ⟨g, b, p, q, Ax, cx, xs, Am, cm, ms, Ag, cg, gs, Ai, ci, im⟩ w6.heap.size w6 (hP6.own.vlt) (Nat.le_refl _) hNs HCC.out HCG.out hAm).mono ?_
    rintro e w7 ⟨rfl, hk7⟩
    rw [← HW.out.ok]
    have r7 := r6.nx hk7
    have hx7 := hx6.trans hk7
    have hP7 := (hP6.nx hk7).up hk7.size
    have v7 := v6.nx hk7
    clear r6 hx6 hP6 v6 hNs hAm
    obtain ⟨x0, x1, x2, x3, x4, x5, x6, x7⟩ := v7.e8
    cases hv : (ldW ss ws (g, b, p, q, xs, ms)).ok with
    | false =>
      have HA := Lib.hid (ldV_wrong HU.out hv)
      clear hv x0 x1 x2 x3 x4 x5 x6 x7
      have rq := r7.row #[.int .i64 0, .int .i64 0, .int .i64 0, .int .i64 0, .slice none 0 0, .slice none 0 0, .slice none 0 0, .slice none 0 0]
      have hnf := hx7.setRow hgR #[.int .i64 0, .int .i64 0, .int .i64 0, .int .i64 0, .slice none 0 0, .slice none 0 0, .slice none 0 0, .slice none 0 0]
      go_wp2_with (refine wpList_store_row rfl _ _ _ rfl gR #[.int .i64 0, .int .i64 0, .int .i64 0, .int .i64 0, .slice none 0 0, .slice none 0 0, .slice none 0 0, .slice none 0 0] rfl rfl 33 #[.int .i64 0, .int .i64 0, .int .i64 0, .int .i64 0, .slice none 0 0, .slice none 0 0, .slice none 0 0, .slice none 0 0] r7 (by kernel_rfl) rfl (by simp [Value.oneCell']) ?_)
      generalize w7.setRow gR #[.int .i64 0, .int .i64 0, .int .i64 0, .int .i64 0, .slice none 0 0, .slice none 0 0, .slice none 0 0, .slice none 0 0] = Wf at *
      obtain ⟨g0, g1, g2, g3, g4, g5, g6, g7⟩ := rq.e8
      exact bodyPost_ret (v := .tuple #[.agg #[.int .i64 0, .int .i64 0, .int .i64 0, .int .i64 0, .slice none 0 0, .slice none 0 0, .slice none 0 0, .slice none 0 0], .int .i64 10]) (by simp [results, Tryz.results59, go_sem, g0, g1, g2, g3, g4, g5, g6, g7]) rfl ⟨zVl, w.heap.size, by rw [HA.out]; rfl, by rw [HA.out]; exact VlS.refl _, VlP.zero _ hnf.size, hnf⟩
    | true =>
      have HA := Lib.hid (ldV_yes HU.out HOk.out hv)
      clear hv
      have rq := r7.row #[.int .i64 g, .int .i64 b, .int .i64 p, .int .i64 q, .slice Ax xs.length cx, .slice Am ms.length cm, .slice Ag gs.length cg, .slice Ai im.length ci]
      have hnf := hx7.setRow hgR #[.int .i64 g, .int .i64 b, .int .i64 p, .int .i64 q, .slice Ax xs.length cx, .slice Am ms.length cm, .slice Ag gs.length cg, .slice Ai im.length ci]
      have hvf := hP7.rowfar hltR #[.int .i64 g, .int .i64 b, .int .i64 p, .int .i64 q, .slice Ax xs.length cx, .slice Am ms.length cm, .slice Ag gs.length cg, .slice Ai im.length ci]
      have hzf := size_setRow w7 gR #[.int .i64 g, .int .i64 b, .int .i64 p, .int .i64 q, .slice Ax xs.length cx, .slice Am ms.length cm, .slice Ag gs.length cg, .slice Ai im.length ci]
      go_wp2_with (refine wpList_store_row rfl _ _ _ rfl gR #[.int .i64 g, .int .i64 b, .int .i64 p, .int .i64 q, .slice Ax xs.length cx, .slice Am ms.length cm, .slice Ag gs.length cg, .slice Ai im.length ci] rfl rfl 33 #[.int .i64 0, .int .i64 0, .int .i64 0, .int .i64 0, .slice none 0 0, .slice none 0 0, .slice none 0 0, .slice none 0 0] r7 (by kernel_rfl) rfl (by simp [Value.oneCell']) ?_)
      generalize w7.setRow gR #[.int .i64 g, .int .i64 b, .int .i64 p, .int .i64 q, .slice Ax xs.length cx, .slice Am ms.length cm, .slice Ag gs.length cg, .slice Ai im.length ci] = Wf at *
      obtain ⟨g0, g1, g2, g3, g4, g5, g6, g7⟩ := rq.e8
      exact bodyPost_ret (v := .tuple #[.agg #[.int .i64 g, .int .i64 b, .int .i64 p, .int .i64 q, .slice Ax xs.length cx, .slice Am ms.length cm, .slice Ag gs.length cg, .slice Ai im.length ci], .int .i64 0]) (by simp [results, Tryz.results59, go_sem, g0, g1, g2, g3, g4, g5, g6, g7]) rfl ⟨⟨g, b, p, q, Ax, cx, xs, Am, cm, ms, Ag, cg, gs, Ai, ci, im⟩, w3.heap.size, by rw [HA.out]; rfl, by rw [HA.out]; exact HW.out, (hvf.low hx0.size).up (by omega), hnf⟩
set_option maxHeartbeats 4000000 in
theorem implLoadVault_c (A A2 : Option Addr) (n c n2 c2 B : Nat) (ss : List ByteArray) (ws : List (Int × ByteArray)) (w : World) (a0 a1 : Addr) (h : Strs w B A n ss) (h2 : Wrs w B A2 n2 ws) (hB : B ≤ w.heap.size) (hn : n ≤ 1048576) (hn2 : n2 ≤ 1048576) (hE : Er w a0 a1) (hM : Mx w) (hEt : Et w) :
    Calls Tryz.prog 13 #[.agg #[.slice A n c, .slice A2 n2 c2]] w (RetLd w (ldA ss ws)) := by
  have r0 : Box ((w.alloc (.cells #[.slice A n c, .slice A2 n2 c2] 38)).alloc (.cells #[.int .i64 0, .int .i64 0, .int .i64 0, .int .i64 0, .slice none 0 0, .slice none 0 0, .slice none 0 0, .slice none 0 0] 33)) (w.heap.size + 1) 33 #[.int .i64 0, .int .i64 0, .int .i64 0, .int .i64 0, .slice none 0 0, .slice none 0 0, .slice none 0 0, .slice none 0 0] := by have := Box.new (w.alloc (.cells #[.slice A n c, .slice A2 n2 c2] 38)) 33 #[.int .i64 0, .int .i64 0, .int .i64 0, .int .i64 0, .slice none 0 0, .slice none 0 0, .slice none 0 0, .slice none 0 0]; rwa [World.size_alloc] at this
  have e0 : Box ((w.alloc (.cells #[.slice A n c, .slice A2 n2 c2] 38)).alloc (.cells #[.int .i64 0, .int .i64 0, .int .i64 0, .int .i64 0, .slice none 0 0, .slice none 0 0, .slice none 0 0, .slice none 0 0] 33)) w.heap.size 38 #[.slice A n c, .slice A2 n2 c2] := (Box.new w _ _).alloc _
  have hx0 := ((Nx.refl w).alloc (.cells #[.slice A n c, .slice A2 n2 c2] 38)).alloc (.cells #[.int .i64 0, .int .i64 0, .int .i64 0, .int .i64 0, .slice none 0 0, .slice none 0 0, .slice none 0 0, .slice none 0 0] 33)
  go_enter Tryz.func13, Tryz.ntmps13
  go_wp2_with fail
  generalize (w.alloc (.cells #[.slice A n c, .slice A2 n2 c2] 38)).alloc (.cells #[.int .i64 0, .int .i64 0, .int .i64 0, .int .i64 0, .slice none 0 0, .slice none 0 0, .slice none 0 0, .slice none 0 0] 33) = W at *
  obtain ⟨gR, Hg⟩ : ∃ g, Hid (w.heap.size + 1 = g) := ⟨_, rfl⟩
  have hgR : w.heap.size ≤ gR := by have := Hg.out; omega
  have hgR1 : w.heap.size < gR := by have := Hg.out; omega
  rw [Hg.out] at r0 ⊢
  have hltR0 := r0.lt
  refine (isRight_c A A2 n c n2 c2 B ss ws _ (h.below hx0 hB) (h2.below hx0 hB) (Nat.le_trans hB hx0.size) hn hn2).mono ?_
  rintro e w1 ⟨rfl, hnx1⟩
  have r1 := r0.nx hnx1
  have e1 := e0.nx hnx1
  have hx1 := hx0.trans hnx1
  clear r0 e0
  cases hD : diskB ss ws with
  | false =>
    have HA := Lib.hid (ldA_bad hD)
    clear hD
    have rq := r1.row #[.int .i64 0, .int .i64 0, .int .i64 0, .int .i64 0, .slice none 0 0, .slice none 0 0, .slice none 0 0, .slice none 0 0]
    have hnf := hx1.setRow hgR #[.int .i64 0, .int .i64 0, .int .i64 0, .int .i64 0, .slice none 0 0, .slice none 0 0, .slice none 0 0, .slice none 0 0]
    go_wp2_with (refine wpList_store_row rfl _ _ _ rfl gR #[.int .i64 0, .int .i64 0, .int .i64 0, .int .i64 0, .slice none 0 0, .slice none 0 0, .slice none 0 0, .slice none 0 0] rfl rfl 33 #[.int .i64 0, .int .i64 0, .int .i64 0, .int .i64 0, .slice none 0 0, .slice none 0 0, .slice none 0 0, .slice none 0 0] r1 (by kernel_rfl) rfl (by simp [Value.oneCell']) ?_)
    generalize w1.setRow gR #[.int .i64 0, .int .i64 0, .int .i64 0, .int .i64 0, .slice none 0 0, .slice none 0 0, .slice none 0 0, .slice none 0 0] = Wf at *
    obtain ⟨g0, g1, g2, g3, g4, g5, g6, g7⟩ := rq.e8
    exact bodyPost_ret (v := .tuple #[.agg #[.int .i64 0, .int .i64 0, .int .i64 0, .int .i64 0, .slice none 0 0, .slice none 0 0, .slice none 0 0, .slice none 0 0], .int .i64 1]) (by simp [results, Tryz.results13, go_sem, g0, g1, g2, g3, g4, g5, g6, g7]) rfl ⟨zVl, w.heap.size, by rw [HA.out]; rfl, by rw [HA.out]; exact VlS.refl _, VlP.zero _ hnf.size, hnf⟩
  | true =>
    have HA := Lib.hid (ldA_yes hD)
    have HD := Lib.hid hD
    clear hD
    have z0 := e1.c0
    have z1 := e1.c1
    have hltR := r1.lt
    go_wp2_with fail
    refine (diskVault_c A A2 n c n2 c2 B ss ws _ a0 a1 (h.below hx1 hB) (h2.below hx1 hB) (Nat.le_trans hB hx1.size) hn hn2 HD.out (hE.nx hx1) (hM.nx hx1) (hEt.nx hx1)).mono ?_
    rintro e w2 ⟨⟨g, b, p, q, Ax, cx, xs, Am, cm, ms, Ag, cg, gs, Ai, ci, im⟩, mid, rfl, hS, hP, hk2⟩
    have r2 := r1.nx hk2
    have hx2 := hx1.trans hk2
    have hl1 := hx1.size
    rw [← HA.out] at hS ⊢
    clear r1 e1 z0 z1 hltR0
    obtain ⟨cd, Hcd⟩ : ∃ cd, Hid ((ldA ss ws).2 = cd) := ⟨_, rfl⟩
    have HSv := Lib.hid hS
    rw [Hcd.out]
    simp only [Vl.v, Vl.cells]
    clear hS
    have rq := r2.row #[.int .i64 g, .int .i64 b, .int .i64 p, .int .i64 q, .slice Ax xs.length cx, .slice Am ms.length cm, .slice Ag gs.length cg, .slice Ai im.length ci]
    have hnf := hx2.setRow hgR #[.int .i64 g, .int .i64 b, .int .i64 p, .int .i64 q, .slice Ax xs.length cx, .slice Am ms.length cm, .slice Ag gs.length cg, .slice Ai im.length ci]
    have hvf := hP.rowfar hltR #[.int .i64 g, .int .i64 b, .int .i64 p, .int .i64 q, .slice Ax xs.length cx, .slice Am ms.length cm, .slice Ag gs.length cg, .slice Ai im.length ci]
    have hzf := size_setRow w2 gR #[.int .i64 g, .int .i64 b, .int .i64 p, .int .i64 q, .slice Ax xs.length cx, .slice Am ms.length cm, .slice Ag gs.length cg, .slice Ai im.length ci]
    go_wp2_with (refine wpList_store_row rfl _ _ _ rfl gR #[.int .i64 g, .int .i64 b, .int .i64 p, .int .i64 q, .slice Ax xs.length cx, .slice Am ms.length cm, .slice Ag gs.length cg, .slice Ai im.length ci] rfl rfl 33 #[.int .i64 0, .int .i64 0, .int .i64 0, .int .i64 0, .slice none 0 0, .slice none 0 0, .slice none 0 0, .slice none 0 0] r2 (by kernel_rfl) rfl (by simp [Value.oneCell']) ?_)
    generalize w2.setRow gR #[.int .i64 g, .int .i64 b, .int .i64 p, .int .i64 q, .slice Ax xs.length cx, .slice Am ms.length cm, .slice Ag gs.length cg, .slice Ai im.length ci] = Wf at *
    obtain ⟨g0, g1, g2, g3, g4, g5, g6, g7⟩ := rq.e8
    exact bodyPost_ret (v := .tuple #[.agg #[.int .i64 g, .int .i64 b, .int .i64 p, .int .i64 q, .slice Ax xs.length cx, .slice Am ms.length cm, .slice Ag gs.length cg, .slice Ai im.length ci], .int .i64 cd]) (by simp [results, Tryz.results13, go_sem, g0, g1, g2, g3, g4, g5, g6, g7]) rfl ⟨⟨g, b, p, q, Ax, cx, xs, Am, cm, ms, Ag, cg, gs, Ai, ci, im⟩, mid, by rw [Hcd.out]; rfl, HSv.out, (hvf.low hl1).up (by omega), hnf⟩
end Go.Proofs.YtehahodomfbpjaaGreatDoor
/- The program's content at a position. Conditions: what is read can be read, and holds at most 1048576 elements of a kind. -/
namespace Go.Proofs.YtehahodomfbpjaaGreatDoor
set_option linter.unusedVariables false
set_option maxRecDepth 100000
open Go.RowKit

set_option maxHeartbeats 4000000 in
theorem contentAt_c (V : Vl) (x : Int) (B : Nat) (w : World) (h : Sgs w B V.A3 V.gs) (hB : B ≤ w.heap.size) (hy : VltY V.g V.b V.p V.t V.xs V.ms V.gs V.im) (hr : isRet V.b V.gs x = true) :
    Calls Tryz.prog 97 #[V.w, .int .i64 x] w fun e w' => e = .returned (vA (cntV V.b V.p V.t V.gs V.im x)) ∧ Nx w w' := by
  have hSD := stepDone_c V B
  have hSA := segsAhead_c V x B
  obtain ⟨g, b, p, t, A, c, xs, A2, c2, ms, A3, c3, gs, A4, c4, im⟩ := V
  simp only [Vl.w, Vl.wcells] at *
  have HLd := Lib.hid (chainB_lead hy.chain)
  have HSD := Lib.hid (fun (w' : World) (hx : Nx w w') => hSD w' (h.below hx hB) (Nat.le_trans hB hx.size) HLd.out hy.l8 hy.ahd.1 hy.ahd.2)
  have HSA := Lib.hid (fun (w' : World) (hx : Nx w w') => hSA w' (h.below hx hB) (Nat.le_trans hB hx.size) hy.n4 hr)
  have HSL := Lib.hid (stp_le (t := t) im HLd.out hy.places)
  have HSg := Lib.hid (fun (k : Nat) (hk : k < gs.length) (w' : World) (hx : Nx w w') => (h.below hx hB).row.at4 hk)
  have HCh := Lib.hid (fun (k : Nat) (hk : k < gs.length) (w' : World) (hx : Nx w w') => (h.chs k hk).below hx hB)
  have HAx := Lib.hid (ahd_at hr)
  have Hct : Hid (cntV b p t gs im x = bkK (fwK (stp b p t gs im).1 gs (stp b p t gs im).2 (ahd b gs x - (stp b p t gs im).2)) gs (stp b p t gs im).2 ((stp b p t gs im).2 - ahd b gs x)) := Lib.hid (by
    unfold cntV
    by_cases hle : (stp b p t gs im).2 ≤ ahd b gs x
    · rw [if_pos hle, show (stp b p t gs im).2 - ahd b gs x = 0 by omega]; rfl
    · rw [if_neg hle, show ahd b gs x - (stp b p t gs im).2 = 0 by omega]; rfl)
  have H8 := Lib.hid hy.l8
  have hn9 := hy.n4
  obtain ⟨n, Hn⟩ : ∃ n, Hid (gs.length = n) := ⟨_, rfl⟩
  rw [Hn.out] at HSg HCh HAx hn9 HSD HSA
  rw [Hct.out]
  obtain ⟨c0, Hc0⟩ : ∃ c0, Hid ((stp b p t gs im).1 = c0) := ⟨_, rfl⟩
  obtain ⟨a, Hat⟩ : ∃ a, Hid ((stp b p t gs im).2 = a) := ⟨_, rfl⟩
  obtain ⟨e9, He⟩ : ∃ e9, Hid (ahd b gs x = e9) := ⟨_, rfl⟩
  have HL0 : Hid (c0.length = 8) := Lib.hid (by rw [← Hc0.out, stp_len]; exact H8.out)
  rw [Hc0.out, Hat.out] at HSD
  rw [He.out] at HAx HSA
  rw [Hc0.out, Hat.out, He.out, Hn.out]
  have hat : a ≤ n := by have := HSL.out.1; rw [Hat.out, Hn.out] at this; exact this
  have hen : e9 ≤ n := HAx.out.1
  have HOKs := Lib.hid (fun k (hk : k < n) => HLd.out.ok k (by rw [Hn.out]; exact hk))
  have b0 : Box ((w.alloc (.cells #[.int .i64 g, .int .i64 b, .int .i64 p, .int .i64 t, .slice A xs.length c, .slice A2 ms.length c2, .slice A3 n c3, inAt im 0, inAt im 1, inAt im 2, inAt im 3, inAt im 4, inAt im 5, inAt im 6, inAt im 7] 118)).alloc (.cells #[.int .i64 0, .int .i64 0, .int .i64 0, .int .i64 0, .int .i64 0, .int .i64 0, .int .i64 0, .int .i64 0] 116)) w.heap.size 118 #[.int .i64 g, .int .i64 b, .int .i64 p, .int .i64 t, .slice A xs.length c, .slice A2 ms.length c2, .slice A3 n c3, inAt im 0, inAt im 1, inAt im 2, inAt im 3, inAt im 4, inAt im 5, inAt im 6, inAt im 7] := (Box.new w _ _).alloc _
  have r0 : Box ((w.alloc (.cells #[.int .i64 g, .int .i64 b, .int .i64 p, .int .i64 t, .slice A xs.length c, .slice A2 ms.length c2, .slice A3 n c3, inAt im 0, inAt im 1, inAt im 2, inAt im 3, inAt im 4, inAt im 5, inAt im 6, inAt im 7] 118)).alloc (.cells #[.int .i64 0, .int .i64 0, .int .i64 0, .int .i64 0, .int .i64 0, .int .i64 0, .int .i64 0, .int .i64 0] 116)) (w.heap.size + 1) 116 #[.int .i64 0, .int .i64 0, .int .i64 0, .int .i64 0, .int .i64 0, .int .i64 0, .int .i64 0, .int .i64 0] := by have := Box.new (w.alloc (.cells #[.int .i64 g, .int .i64 b, .int .i64 p, .int .i64 t, .slice A xs.length c, .slice A2 ms.length c2, .slice A3 n c3, inAt im 0, inAt im 1, inAt im 2, inAt im 3, inAt im 4, inAt im 5, inAt im 6, inAt im 7] 118)) 116 #[.int .i64 0, .int .i64 0, .int .i64 0, .int .i64 0, .int .i64 0, .int .i64 0, .int .i64 0, .int .i64 0]; rwa [World.size_alloc] at this
  have hx0 := ((Nx.refl w).alloc (.cells #[.int .i64 g, .int .i64 b, .int .i64 p, .int .i64 t, .slice A xs.length c, .slice A2 ms.length c2, .slice A3 n c3, inAt im 0, inAt im 1, inAt im 2, inAt im 3, inAt im 4, inAt im 5, inAt im 6, inAt im 7] 118)).alloc (.cells #[.int .i64 0, .int .i64 0, .int .i64 0, .int .i64 0, .int .i64 0, .int .i64 0, .int .i64 0, .int .i64 0] 116)
  clear hSD hSA h hy hr
  go_enter Tryz.func97, Tryz.ntmps97
  go_wp2_with fail
  generalize ((w.alloc (.cells #[.int .i64 g, .int .i64 b, .int .i64 p, .int .i64 t, .slice A xs.length c, .slice A2 ms.length c2, .slice A3 n c3, inAt im 0, inAt im 1, inAt im 2, inAt im 3, inAt im 4, inAt im 5, inAt im 6, inAt im 7] 118)).alloc (.cells #[.int .i64 0, .int .i64 0, .int .i64 0, .int .i64 0, .int .i64 0, .int .i64 0, .int .i64 0, .int .i64 0] 116)) = W at *
  obtain ⟨gR, HgR⟩ : ∃ g, Hid (w.heap.size + 1 = g) := ⟨_, rfl⟩
  have hgR : w.heap.size ≤ gR := by have := HgR.out; omega
  rw [HgR.out]
  rw [HgR.out] at r0
  refine (HSD.out _ hx0).mono ?_
  rintro e w1 ⟨rfl, hk⟩
  unfold vA
  have b1 := b0.nx hk
  have r1 := r0.nx hk
  replace hx0 := hx0.trans hk
  have rz := Box.new w1 116 #[.int .i64 0, .int .i64 0, .int .i64 0, .int .i64 0, .int .i64 0, .int .i64 0, .int .i64 0, .int .i64 0]
  have b2 := (b1.alloc (.cells #[.int .i64 0, .int .i64 0, .int .i64 0, .int .i64 0, .int .i64 0, .int .i64 0, .int .i64 0, .int .i64 0] 116)).rowfar (show w.heap.size ≠ w1.heap.size by have := b1.lt; omega) #[inAt c0 0, inAt c0 1, inAt c0 2, inAt c0 3, inAt c0 4, inAt c0 5, inAt c0 6, inAt c0 7]
  have r2 := (r1.alloc (.cells #[.int .i64 0, .int .i64 0, .int .i64 0, .int .i64 0, .int .i64 0, .int .i64 0, .int .i64 0, .int .i64 0] 116)).rowfar (show gR ≠ w1.heap.size by have := r1.lt; omega) #[inAt c0 0, inAt c0 1, inAt c0 2, inAt c0 3, inAt c0 4, inAt c0 5, inAt c0 6, inAt c0 7]
  have ba := rz.row #[inAt c0 0, inAt c0 1, inAt c0 2, inAt c0 3, inAt c0 4, inAt c0 5, inAt c0 6, inAt c0 7]
  have hx2 := (hx0.alloc (.cells #[.int .i64 0, .int .i64 0, .int .i64 0, .int .i64 0, .int .i64 0, .int .i64 0, .int .i64 0, .int .i64 0] 116)).setRow (g := w1.heap.size) hx0.size #[inAt c0 0, inAt c0 1, inAt c0 2, inAt c0 3, inAt c0 4, inAt c0 5, inAt c0 6, inAt c0 7]
  have hneA : w.heap.size ≠ w1.heap.size := by have := b1.lt; omega
  have hneAR : gR ≠ w1.heap.size := by have := r1.lt; omega
  have hgA : w.heap.size ≤ w1.heap.size := hx0.size
  obtain ⟨y0, y1, y2, y3, y4, y5, y6, y7, y8, y9, y10, y11, y12, y13, y14⟩ := b2.e15
  clear b0 r0 hk b1 r1
  go_wp2_with (refine wpList_store_row rfl _ _ _ rfl w1.heap.size #[inAt c0 0, inAt c0 1, inAt c0 2, inAt c0 3, inAt c0 4, inAt c0 5, inAt c0 6, inAt c0 7] rfl rfl 116 #[.int .i64 0, .int .i64 0, .int .i64 0, .int .i64 0, .int .i64 0, .int .i64 0, .int .i64 0, .int .i64 0] rz (by kernel_rfl) rfl (by simp [Value.oneCell', inAt]) ?_)
  clear y0 y1 y2 y3 y4 y5 y6 y7 y8 y9 y10 y11 y12 y13 y14 rz hx0
  generalize (w1.alloc (.cells #[.int .i64 0, .int .i64 0, .int .i64 0, .int .i64 0, .int .i64 0, .int .i64 0, .int .i64 0, .int .i64 0] 116)).setRow w1.heap.size #[inAt c0 0, inAt c0 1, inAt c0 2, inAt c0 3, inAt c0 4, inAt c0 5, inAt c0 6, inAt c0 7] = Wl at *
  generalize w1.heap.size = gA at *
  refine (HSA.out _ hx2).mono ?_
  rintro e w3 ⟨rfl, hk⟩
  have ba3 := ba.nx hk
  have b3 := b2.nx hk
  have r3 := r2.nx hk
  have hx3 := hx2.trans hk
  clear ba b2 r2 hx2 hk
  go_wp2_with fail
  go_loopw [6] (fun i wr => ∃ k : Nat, a ≤ k ∧ k ≤ max a e9 ∧ i = .int .i64 k ∧ Box wr gA 116 #[inAt (fwK c0 gs a (k - a)) 0, inAt (fwK c0 gs a (k - a)) 1, inAt (fwK c0 gs a (k - a)) 2, inAt (fwK c0 gs a (k - a)) 3, inAt (fwK c0 gs a (k - a)) 4, inAt (fwK c0 gs a (k - a)) 5, inAt (fwK c0 gs a (k - a)) 6, inAt (fwK c0 gs a (k - a)) 7] ∧ Nx w wr ∧ Box wr w.heap.size 118 #[.int .i64 g, .int .i64 b, .int .i64 p, .int .i64 t, .slice A xs.length c, .slice A2 ms.length c2, .slice A3 n c3, inAt im 0, inAt im 1, inAt im 2, inAt im 3, inAt im 4, inAt im 5, inAt im 6, inAt im 7] ∧ Box wr gR 116 #[.int .i64 0, .int .i64 0, .int .i64 0, .int .i64 0, .int .i64 0, .int .i64 0, .int .i64 0, .int .i64 0]) (fun i _ => max a e9 - (intOf i).toNat)
  case atStart => exact ⟨a, Nat.le_refl _, by omega, rfl, by rw [Nat.sub_self]; exact ba3, hx3, b3, r3⟩
  case round =>
  obtain ⟨k, hka, hkm, rfl, hbx, hnx, hb, hr⟩ := hrel
  clear ba3 hx3 b3 r3
  by_cases hke : k < e9
  · have hd : decide ((k : Int) < (e9 : Int)) = true := decide_eq_true (by omega)
    have hdN : decide (k < e9) = true := decide_eq_true hke
    have hkn : k < n := by omega
    obtain ⟨j, Hj⟩ : ∃ j, Hid (k - a = j) := ⟨_, rfl⟩
    have Hkj : Hid (a + j = k) := Lib.hid (by have := Hj.out; omega)
    rw [Hj.out] at hbx
    obtain ⟨bb, off, rfl, hbb, p0, p1, p2, p3⟩ := HSg.out k hkn wr hnx
    have hbw : bb < wr.heap.size := Nat.lt_of_lt_of_le hbb (Nat.le_trans hB hnx.size)
    have HCk := Lib.hid (HCh.out k hkn)
    have HOKc := Lib.hid (HOKs.out k hkn)
    have HLj : Hid ((fwK c0 gs a j).length = 8) := Lib.hid (by rw [fwK_len]; exact HL0.out)
    have Hsuc : Hid (fwK c0 gs a (j + 1) = app pN (fwK c0 gs a j) (gs.getD k sgZ).cs) := Lib.hid (by rw [← Hkj.out]; rfl)
    obtain ⟨cj, Hcj⟩ : ∃ cj, Hid (fwK c0 gs a j = cj) := ⟨_, rfl⟩
    rw [Hcj.out] at HLj Hsuc hbx
    obtain ⟨⟨f, t9, m9, Ac, cc, cs⟩, Hs⟩ : ∃ s, Hid (gs.getD k sgZ = s) := ⟨_, rfl⟩
    rw [Hs.out] at p0 p1 p2 p3 HCk HOKc Hsuc
    simp only at p0 p1 p2 p3 HCk HOKc Hsuc
    have hkc : (k : Int) < (n : Int) := by omega
    have hk0 : (0 : Int) ≤ (k : Int) := by omega
    have Hin := Lib.hid hkn
    clear hkn
    have Hke := Lib.hid hke
    clear hke
    go_wp2_with fail
    have bae := hbx.nx (Nx.refl _).drew
    have vbe : Box wr.drew w.heap.size 118 #[.int .i64 g, .int .i64 b, .int .i64 p, .int .i64 t, .slice A xs.length c, .slice A2 ms.length c2, .slice (some ⟨bb, off, none⟩) n c3, inAt im 0, inAt im 1, inAt im 2, inAt im 3, inAt im 4, inAt im 5, inAt im 6, inAt im 7] := hb
    have rre := hr.nx (Nx.refl _).drew
    have hnxe := hnx.drew
    replace hbw : bb < wr.drew.heap.size := hbw
    have p0 : wr.drew.cell? ⟨bb, off + k * 4, none⟩ = _ := p0; have p1 : wr.drew.cell? ⟨bb, off + k * 4 + 1, none⟩ = _ := p1; have p2 : wr.drew.cell? ⟨bb, off + k * 4 + 2, none⟩ = _ := p2; have p3 : wr.drew.cell? ⟨bb, off + k * 4 + 3, none⟩ = _ := p3
    have hneb : bb ≠ gA := by omega
    clear hbx hb hr
    refine wp_region_plan (.t 1 (.t 2 (.t 3 (.t 4 (.t 5 (.c 0 (.c 6 (.c 7 .e)))))))) (fun w' => w'.cell? ⟨w.heap.size, 6, none⟩ = some (.slice (some ⟨bb, off, none⟩) n c3) ∧ w'.cell? ⟨bb, off + k * 4, none⟩ = some (.int .i64 f) ∧ w'.cell? ⟨bb, off + k * 4 + 1, none⟩ = some (.int .i64 t9) ∧ w'.cell? ⟨bb, off + k * 4 + 2, none⟩ = some (.int .i64 m9) ∧ w'.cell? ⟨bb, off + k * 4 + 3, none⟩ = some (.slice Ac cs.length cc)) (by kernel_rfl) (by kernel_rfl) rfl (by kernel_rfl) (fun _ _ d _ _ h => by cases d <;> exact h) (by exact ⟨vbe.cell 6, p0, p1, p2, p3⟩) ?_
    simp only [psOf, List.getD_cons_zero, List.getD_cons_succ]
    repeat (first | (refine HP.take (v := ?_) (by rfl) ?_ ?_; rotate_left; (· (intro w hSw; (try dsimp only at hSw); go_simp; try with_reducible rfl)); (try simp only [Act.put, List.setIfInBounds_toArray, List.set_cons_zero, List.set_cons_succ])) | (refine HP.skip (by rfl) ?_; (try simp only [Act.put, List.setIfInBounds_toArray, List.set_cons_zero, List.set_cons_succ])))
    refine HP.call ?_
    refine CallStep.mk (by rfl) (fun K hK => ?_)
    refine wp_load_row _ _ rfl gA rfl 116 #[inAt cj 0, inAt cj 1, inAt cj 2, inAt cj 3, inAt cj 4, inAt cj 5, inAt cj 6, inAt cj 7] (0, 0) _ bae und_values rfl (by kernel_rfl) ?_
    refine hK.out _ _ (by exact ⟨vbe.cell 6, p0, p1, p2, p3⟩) ?_
    clear hK K
    try simp only [Act.put]
    refine HP.call ?_
    refine CallStep.mk (by rfl) (fun K hK => ?_)
    go_simp
    have hcl := valuesForward_c f t9 m9 Ac cc B cs cj _ (HCk.out _ hnxe) (Nat.le_trans hB hnxe.size) HOKc.out HLj.out; unfold vA at hcl; refine hcl.mono ?_; rintro e w9 ⟨rfl, hk9⟩; clear hcl; have ba9 := bae.nx hk9; have vb9 := vbe.nx hk9; have hnx9 := hnxe.trans hk9; have hbw9 := hbw; replace hbw := Nat.lt_of_lt_of_le hbw hk9.size; have hbq9 : bb < w.heap.size := Nat.lt_of_lt_of_le hbb hB; replace p0 := (hk9.cell (p := ⟨bb, off + k * 4, none⟩) hbw9).trans p0; replace p1 := (hk9.cell (p := ⟨bb, off + k * 4 + 1, none⟩) hbw9).trans p1; replace p2 := (hk9.cell (p := ⟨bb, off + k * 4 + 2, none⟩) hbw9).trans p2; replace p3 := (hk9.cell (p := ⟨bb, off + k * 4 + 3, none⟩) hbw9).trans p3; have rr9 := rre.nx hk9
    go_wp2_with fail
    refine hK.out _ _ (by exact ⟨vb9.cell 6, p0, p1, p2, p3⟩) ?_
    clear hK K
    try simp only [Act.put, List.setIfInBounds_toArray, List.set_cons_zero, List.set_cons_succ]
    refine HP.call ?_
    refine CallStep.mk (by rfl) (fun K hK => ?_)
    refine wp_store_row _ _ _ rfl gA #[inAt (app pN cj cs) 0, inAt (app pN cj cs) 1, inAt (app pN cj cs) 2, inAt (app pN cj cs) 3, inAt (app pN cj cs) 4, inAt (app pN cj cs) 5, inAt (app pN cj cs) 6, inAt (app pN cj cs) 7] rfl rfl 116 #[inAt cj 0, inAt cj 1, inAt cj 2, inAt cj 3, inAt cj 4, inAt cj 5, inAt cj 6, inAt cj 7] ba9 (by kernel_rfl) rfl (by simp [Value.oneCell', inAt]) ?_
    refine hK.out _ _ (by exact ⟨(vb9.rowfar hneA #[inAt (app pN cj cs) 0, inAt (app pN cj cs) 1, inAt (app pN cj cs) 2, inAt (app pN cj cs) 3, inAt (app pN cj cs) 4, inAt (app pN cj cs) 5, inAt (app pN cj cs) 6, inAt (app pN cj cs) 7]).cell 6, ((cell_row_far w9 gA #[inAt (app pN cj cs) 0, inAt (app pN cj cs) 1, inAt (app pN cj cs) 2, inAt (app pN cj cs) 3, inAt (app pN cj cs) 4, inAt (app pN cj cs) 5, inAt (app pN cj cs) 6, inAt (app pN cj cs) 7] (p := ⟨bb, off + k * 4, none⟩) (by simp; omega)).trans p0), ((cell_row_far w9 gA #[inAt (app pN cj cs) 0, inAt (app pN cj cs) 1, inAt (app pN cj cs) 2, inAt (app pN cj cs) 3, inAt (app pN cj cs) 4, inAt (app pN cj cs) 5, inAt (app pN cj cs) 6, inAt (app pN cj cs) 7] (p := ⟨bb, off + k * 4 + 1, none⟩) (by simp; omega)).trans p1), ((cell_row_far w9 gA #[inAt (app pN cj cs) 0, inAt (app pN cj cs) 1, inAt (app pN cj cs) 2, inAt (app pN cj cs) 3, inAt (app pN cj cs) 4, inAt (app pN cj cs) 5, inAt (app pN cj cs) 6, inAt (app pN cj cs) 7] (p := ⟨bb, off + k * 4 + 2, none⟩) (by simp; omega)).trans p2), ((cell_row_far w9 gA #[inAt (app pN cj cs) 0, inAt (app pN cj cs) 1, inAt (app pN cj cs) 2, inAt (app pN cj cs) 3, inAt (app pN cj cs) 4, inAt (app pN cj cs) 5, inAt (app pN cj cs) 6, inAt (app pN cj cs) 7] (p := ⟨bb, off + k * 4 + 3, none⟩) (by simp; omega)).trans p3)⟩) ?_
    clear hK K
    try simp only [Act.put]
    refine HP.done ?_
    have bz := ba9.row #[inAt (app pN cj cs) 0, inAt (app pN cj cs) 1, inAt (app pN cj cs) 2, inAt (app pN cj cs) 3, inAt (app pN cj cs) 4, inAt (app pN cj cs) 5, inAt (app pN cj cs) 6, inAt (app pN cj cs) 7]
    have vz := vb9.rowfar hneA #[inAt (app pN cj cs) 0, inAt (app pN cj cs) 1, inAt (app pN cj cs) 2, inAt (app pN cj cs) 3, inAt (app pN cj cs) 4, inAt (app pN cj cs) 5, inAt (app pN cj cs) 6, inAt (app pN cj cs) 7]
    have rz := rr9.rowfar hneAR #[inAt (app pN cj cs) 0, inAt (app pN cj cs) 1, inAt (app pN cj cs) 2, inAt (app pN cj cs) 3, inAt (app pN cj cs) 4, inAt (app pN cj cs) 5, inAt (app pN cj cs) 6, inAt (app pN cj cs) 7]
    have hnxz := hnx9.setRow hgA #[inAt (app pN cj cs) 0, inAt (app pN cj cs) 1, inAt (app pN cj cs) 2, inAt (app pN cj cs) 3, inAt (app pN cj cs) 4, inAt (app pN cj cs) 5, inAt (app pN cj cs) 6, inAt (app pN cj cs) 7]
    generalize w9.setRow gA #[inAt (app pN cj cs) 0, inAt (app pN cj cs) 1, inAt (app pN cj cs) 2, inAt (app pN cj cs) 3, inAt (app pN cj cs) 4, inAt (app pN cj cs) 5, inAt (app pN cj cs) 6, inAt (app pN cj cs) 7] = Wz at *
    go_wp2
    go_roundw

    case rel => exact ⟨k + 1, by omega, by have := Hke.out; omega, by go_num, by rw [show k + 1 - a = j + 1 by have := Hkj.out; omega, Hsuc.out]; exact bz, hnxz, vz, rz⟩
    case measure => (have := Hke.out; simp [intOf] <;> omega)
  have hd : decide ((k : Int) < (e9 : Int)) = false := decide_eq_false (by omega)
  have hdN : decide (k < e9) = false := decide_eq_false hke
  have Hkm : Hid (k = max a e9) := Lib.hid (by omega)
  obtain ⟨d0, Hd0⟩ : ∃ d0, Hid (fwK c0 gs a (e9 - a) = d0) := ⟨_, rfl⟩
  have HLd0 : Hid (d0.length = 8) := Lib.hid (by rw [← Hd0.out, fwK_len]; exact HL0.out)
  rw [show k - a = e9 - a by have := Hkm.out; omega, Hd0.out] at hbx
  have Hke := Lib.hid hke
  clear hke
  go_wp2_with fail
  clear hd hdN
  go_loopw [6] (fun i wr => ∃ k : Nat, e9 ≤ k ∧ k ≤ max a e9 ∧ i = .int .i64 k ∧ Box wr gA 116 #[inAt (bkK d0 gs a (a - k)) 0, inAt (bkK d0 gs a (a - k)) 1, inAt (bkK d0 gs a (a - k)) 2, inAt (bkK d0 gs a (a - k)) 3, inAt (bkK d0 gs a (a - k)) 4, inAt (bkK d0 gs a (a - k)) 5, inAt (bkK d0 gs a (a - k)) 6, inAt (bkK d0 gs a (a - k)) 7] ∧ Nx w wr ∧ Box wr w.heap.size 118 #[.int .i64 g, .int .i64 b, .int .i64 p, .int .i64 t, .slice A xs.length c, .slice A2 ms.length c2, .slice A3 n c3, inAt im 0, inAt im 1, inAt im 2, inAt im 3, inAt im 4, inAt im 5, inAt im 6, inAt im 7] ∧ Box wr gR 116 #[.int .i64 0, .int .i64 0, .int .i64 0, .int .i64 0, .int .i64 0, .int .i64 0, .int .i64 0, .int .i64 0]) (fun i _ => (intOf i).toNat)
  case atStart => exact ⟨k, by have := Hke.out; omega, hkm, rfl, by rw [show a - k = 0 by omega]; exact hbx, hnx, hb, hr⟩
  case round =>
  clear hbx hnx hb hr hka hkm Hke Hkm
  obtain ⟨u, hka, hkm, rfl, hbx, hnx, hb, hr⟩ := hrel
  by_cases hke : e9 < u
  case neg =>
    obtain rfl : e9 = u := by omega
    have hd : decide ((e9 : Int) < (e9 : Int)) = false := by simp
    obtain ⟨y0, y1, y2, y3, y4, y5, y6, y7⟩ := hbx.e8
    have Hfin : Hid (bkK (fwK c0 gs a (e9 - a)) gs a (a - e9) = bkK d0 gs a (a - e9)) := Lib.hid (by rw [Hd0.out])
    obtain ⟨z, Hz⟩ : ∃ z, Hid (bkK d0 gs a (a - e9) = z) := ⟨_, rfl⟩
    rw [Hz.out] at hbx y0 y1 y2 y3 y4 y5 y6 y7
    have q := hr.row #[inAt z 0, inAt z 1, inAt z 2, inAt z 3, inAt z 4, inAt z 5, inAt z 6, inAt z 7]
    have hnf := hnx.setRow hgR #[inAt z 0, inAt z 1, inAt z 2, inAt z 3, inAt z 4, inAt z 5, inAt z 6, inAt z 7]
    go_wp2_with (refine wpList_store_row rfl _ _ _ rfl gR #[inAt z 0, inAt z 1, inAt z 2, inAt z 3, inAt z 4, inAt z 5, inAt z 6, inAt z 7] rfl rfl 116 #[.int .i64 0, .int .i64 0, .int .i64 0, .int .i64 0, .int .i64 0, .int .i64 0, .int .i64 0, .int .i64 0] hr (by kernel_rfl) rfl (by simp [Value.oneCell', inAt]) ?_)
    generalize wr.setRow gR #[inAt z 0, inAt z 1, inAt z 2, inAt z 3, inAt z 4, inAt z 5, inAt z 6, inAt z 7] = Wf at *
    obtain ⟨g0, g1, g2, g3, g4, g5, g6, g7⟩ := q.e8
    exact bodyPost_ret (v := .agg #[inAt z 0, inAt z 1, inAt z 2, inAt z 3, inAt z 4, inAt z 5, inAt z 6, inAt z 7]) (by simp [results, Tryz.results97, go_sem, g0, g1, g2, g3, g4, g5, g6, g7]) rfl ⟨by rw [Hfin.out, Hz.out]; rfl, hnf⟩
  obtain ⟨i, rfl⟩ : ∃ i, u = i + 1 := ⟨u - 1, by omega⟩
  have hd : decide ((e9 : Int) < ((i + 1 : Nat) : Int)) = true := decide_eq_true (by omega)
  have hd2 : decide ((e9 : Int) < (i : Int) + 1) = true := decide_eq_true (by omega)
  have hdN : decide (e9 < i + 1) = true := decide_eq_true hke
  have hkn : i < n := by omega
  have hwi : IntKind.i64.wrap (i : Int) = (i : Int) := IntWalk.i64_in _ (by omega)
  obtain ⟨j, Hj⟩ : ∃ j, Hid (a - (i + 1) = j) := ⟨_, rfl⟩
  have Hkj : Hid (i = a - 1 - j) := Lib.hid (by have := Hj.out; omega)
  have Hm1 : Hid (a - i = j + 1) := Lib.hid (by have := Hj.out; omega)
  rw [Hj.out] at hbx
  obtain ⟨bb, off, rfl, hbb, p0, p1, p2, p3⟩ := HSg.out i hkn wr hnx
  have hbw : bb < wr.heap.size := Nat.lt_of_lt_of_le hbb (Nat.le_trans hB hnx.size)
  have HCk := Lib.hid (HCh.out i hkn)
  have HOKc := Lib.hid (HOKs.out i hkn)
  have HLj : Hid ((bkK d0 gs a j).length = 8) := Lib.hid (by rw [bkK_len]; exact HLd0.out)
  have Hsuc : Hid (bkK d0 gs a (j + 1) = app pO (bkK d0 gs a j) (gs.getD i sgZ).cs) := Lib.hid (by rw [Hkj.out]; rfl)
  obtain ⟨cj, Hcj⟩ : ∃ cj, Hid (bkK d0 gs a j = cj) := ⟨_, rfl⟩
  rw [Hcj.out] at HLj Hsuc hbx
  obtain ⟨⟨f, t9, m9, Ac, cc, cs⟩, Hs⟩ : ∃ s, Hid (gs.getD i sgZ = s) := ⟨_, rfl⟩
  rw [Hs.out] at p0 p1 p2 p3 HCk HOKc Hsuc
  simp only at p0 p1 p2 p3 HCk HOKc Hsuc
  have hkc : (i : Int) < (n : Int) := by omega
  have hk0 : (0 : Int) ≤ (i : Int) := by omega
  have Hin := Lib.hid hkn
  clear hkn
  have Hke := Lib.hid hke
  clear hke
  go_wp2_with fail
  have bae := hbx.nx (Nx.refl _).drew
  have vbe : Box wr.drew w.heap.size 118 #[.int .i64 g, .int .i64 b, .int .i64 p, .int .i64 t, .slice A xs.length c, .slice A2 ms.length c2, .slice (some ⟨bb, off, none⟩) n c3, inAt im 0, inAt im 1, inAt im 2, inAt im 3, inAt im 4, inAt im 5, inAt im 6, inAt im 7] := hb
  have rre := hr.nx (Nx.refl _).drew
  have hnxe := hnx.drew
  replace hbw : bb < wr.drew.heap.size := hbw
  have p0 : wr.drew.cell? ⟨bb, off + i * 4, none⟩ = _ := p0; have p1 : wr.drew.cell? ⟨bb, off + i * 4 + 1, none⟩ = _ := p1; have p2 : wr.drew.cell? ⟨bb, off + i * 4 + 2, none⟩ = _ := p2; have p3 : wr.drew.cell? ⟨bb, off + i * 4 + 3, none⟩ = _ := p3
  have hneb : bb ≠ gA := by omega
  clear hbx hb hr
  refine wp_region_plan (.t 1 (.t 2 (.t 3 (.t 4 (.t 5 (.t 6 (.c 0 (.c 7 (.c 8 .e))))))))) (fun w' => w'.cell? ⟨w.heap.size, 6, none⟩ = some (.slice (some ⟨bb, off, none⟩) n c3) ∧ w'.cell? ⟨bb, off + i * 4, none⟩ = some (.int .i64 f) ∧ w'.cell? ⟨bb, off + i * 4 + 1, none⟩ = some (.int .i64 t9) ∧ w'.cell? ⟨bb, off + i * 4 + 2, none⟩ = some (.int .i64 m9) ∧ w'.cell? ⟨bb, off + i * 4 + 3, none⟩ = some (.slice Ac cs.length cc)) (by kernel_rfl) (by kernel_rfl) rfl (by kernel_rfl) (fun _ _ d _ _ h => by cases d <;> exact h) (by exact ⟨vbe.cell 6, p0, p1, p2, p3⟩) ?_
  simp only [psOf, List.getD_cons_zero, List.getD_cons_succ]
  repeat (first | (refine HP.take (v := ?_) (by rfl) ?_ ?_; rotate_left; (· (intro w hSw; (try dsimp only at hSw); go_simp; try with_reducible rfl)); (try simp only [Act.put, List.setIfInBounds_toArray, List.set_cons_zero, List.set_cons_succ])) | (refine HP.skip (by rfl) ?_; (try simp only [Act.put, List.setIfInBounds_toArray, List.set_cons_zero, List.set_cons_succ])))
  refine HP.call ?_
  refine CallStep.mk (by rfl) (fun K hK => ?_)
  refine wp_load_row _ _ rfl gA rfl 116 #[inAt cj 0, inAt cj 1, inAt cj 2, inAt cj 3, inAt cj 4, inAt cj 5, inAt cj 6, inAt cj 7] (0, 0) _ bae und_values rfl (by kernel_rfl) ?_
  refine hK.out _ _ (by exact ⟨vbe.cell 6, p0, p1, p2, p3⟩) ?_
  clear hK K
  try simp only [Act.put]
  refine HP.call ?_
  refine CallStep.mk (by rfl) (fun K hK => ?_)
  go_simp
  have hcl := valuesBackward_c f t9 m9 Ac cc B cs cj _ (HCk.out _ hnxe) (Nat.le_trans hB hnxe.size) HOKc.out HLj.out; unfold vA at hcl; refine hcl.mono ?_; rintro e w9 ⟨rfl, hk9⟩; clear hcl; have ba9 := bae.nx hk9; have vb9 := vbe.nx hk9; have hnx9 := hnxe.trans hk9; have hbw9 := hbw; replace hbw := Nat.lt_of_lt_of_le hbw hk9.size; have hbq9 : bb < w.heap.size := Nat.lt_of_lt_of_le hbb hB; replace p0 := (hk9.cell (p := ⟨bb, off + i * 4, none⟩) hbw9).trans p0; replace p1 := (hk9.cell (p := ⟨bb, off + i * 4 + 1, none⟩) hbw9).trans p1; replace p2 := (hk9.cell (p := ⟨bb, off + i * 4 + 2, none⟩) hbw9).trans p2; replace p3 := (hk9.cell (p := ⟨bb, off + i * 4 + 3, none⟩) hbw9).trans p3; have rr9 := rre.nx hk9
  go_wp2_with fail
  refine hK.out _ _ (by exact ⟨vb9.cell 6, p0, p1, p2, p3⟩) ?_
  clear hK K
  try simp only [Act.put, List.setIfInBounds_toArray, List.set_cons_zero, List.set_cons_succ]
  refine HP.call ?_
  refine CallStep.mk (by rfl) (fun K hK => ?_)
  refine wp_store_row _ _ _ rfl gA #[inAt (app pO cj cs) 0, inAt (app pO cj cs) 1, inAt (app pO cj cs) 2, inAt (app pO cj cs) 3, inAt (app pO cj cs) 4, inAt (app pO cj cs) 5, inAt (app pO cj cs) 6, inAt (app pO cj cs) 7] rfl rfl 116 #[inAt cj 0, inAt cj 1, inAt cj 2, inAt cj 3, inAt cj 4, inAt cj 5, inAt cj 6, inAt cj 7] ba9 (by kernel_rfl) rfl (by simp [Value.oneCell', inAt]) ?_
  refine hK.out _ _ (by exact ⟨(vb9.rowfar hneA #[inAt (app pO cj cs) 0, inAt (app pO cj cs) 1, inAt (app pO cj cs) 2, inAt (app pO cj cs) 3, inAt (app pO cj cs) 4, inAt (app pO cj cs) 5, inAt (app pO cj cs) 6, inAt (app pO cj cs) 7]).cell 6, ((cell_row_far w9 gA #[inAt (app pO cj cs) 0, inAt (app pO cj cs) 1, inAt (app pO cj cs) 2, inAt (app pO cj cs) 3, inAt (app pO cj cs) 4, inAt (app pO cj cs) 5, inAt (app pO cj cs) 6, inAt (app pO cj cs) 7] (p := ⟨bb, off + i * 4, none⟩) (by simp; omega)).trans p0), ((cell_row_far w9 gA #[inAt (app pO cj cs) 0, inAt (app pO cj cs) 1, inAt (app pO cj cs) 2, inAt (app pO cj cs) 3, inAt (app pO cj cs) 4, inAt (app pO cj cs) 5, inAt (app pO cj cs) 6, inAt (app pO cj cs) 7] (p := ⟨bb, off + i * 4 + 1, none⟩) (by simp; omega)).trans p1), ((cell_row_far w9 gA #[inAt (app pO cj cs) 0, inAt (app pO cj cs) 1, inAt (app pO cj cs) 2, inAt (app pO cj cs) 3, inAt (app pO cj cs) 4, inAt (app pO cj cs) 5, inAt (app pO cj cs) 6, inAt (app pO cj cs) 7] (p := ⟨bb, off + i * 4 + 2, none⟩) (by simp; omega)).trans p2), ((cell_row_far w9 gA #[inAt (app pO cj cs) 0, inAt (app pO cj cs) 1, inAt (app pO cj cs) 2, inAt (app pO cj cs) 3, inAt (app pO cj cs) 4, inAt (app pO cj cs) 5, inAt (app pO cj cs) 6, inAt (app pO cj cs) 7] (p := ⟨bb, off + i * 4 + 3, none⟩) (by simp; omega)).trans p3)⟩) ?_
  clear hK K
  try simp only [Act.put]
  refine HP.done ?_
  have bz := ba9.row #[inAt (app pO cj cs) 0, inAt (app pO cj cs) 1, inAt (app pO cj cs) 2, inAt (app pO cj cs) 3, inAt (app pO cj cs) 4, inAt (app pO cj cs) 5, inAt (app pO cj cs) 6, inAt (app pO cj cs) 7]
  have vz := vb9.rowfar hneA #[inAt (app pO cj cs) 0, inAt (app pO cj cs) 1, inAt (app pO cj cs) 2, inAt (app pO cj cs) 3, inAt (app pO cj cs) 4, inAt (app pO cj cs) 5, inAt (app pO cj cs) 6, inAt (app pO cj cs) 7]
  have rz := rr9.rowfar hneAR #[inAt (app pO cj cs) 0, inAt (app pO cj cs) 1, inAt (app pO cj cs) 2, inAt (app pO cj cs) 3, inAt (app pO cj cs) 4, inAt (app pO cj cs) 5, inAt (app pO cj cs) 6, inAt (app pO cj cs) 7]
  have hnxz := hnx9.setRow hgA #[inAt (app pO cj cs) 0, inAt (app pO cj cs) 1, inAt (app pO cj cs) 2, inAt (app pO cj cs) 3, inAt (app pO cj cs) 4, inAt (app pO cj cs) 5, inAt (app pO cj cs) 6, inAt (app pO cj cs) 7]
  generalize w9.setRow gA #[inAt (app pO cj cs) 0, inAt (app pO cj cs) 1, inAt (app pO cj cs) 2, inAt (app pO cj cs) 3, inAt (app pO cj cs) 4, inAt (app pO cj cs) 5, inAt (app pO cj cs) 6, inAt (app pO cj cs) 7] = Wz at *
  go_wp2
  go_roundw
  case rel => exact ⟨i, by have := Hke.out; omega, by omega, rfl, by rw [Hm1.out, Hsuc.out]; exact bz, hnxz, vz, rz⟩
  case measure => (simp [intOf] <;> omega)
end Go.Proofs.YtehahodomfbpjaaGreatDoor
/- ContentAt, of the program. Conditions: what is read can be read, and holds at most 1048576 elements of a kind. -/
namespace Go.Proofs.YtehahodomfbpjaaGreatDoor
set_option linter.unusedVariables false
set_option maxRecDepth 100000
open Go.RowKit

set_option maxHeartbeats 2000000 in
theorem implContentAt_c (V : Vl) (x : Int) (B : Nat) (w : World) (h : Vlt w B V) (hB : B ≤ w.heap.size) (hn : VlN V 1048576) (hc : V.xs.length ≤ V.c) (hc3 : V.gs.length ≤ V.c3) (hm : AllM V.ms) :
    Calls Tryz.prog 31 #[V.v, .int .i64 x] w (RetIC w (ctR V x).1 (ctR V x).2) := by
  have hOK := vaultRight_c V B
  have hIs := isRetained_c V x B
  have hCt := contentAt_c V x B
  have hVW := view_c V B
  cases hv : V.ok with
  | false =>
    have HT := Lib.hid (ctR_no (x := x) hv)
    rw [HT.out]
    have HOK := Lib.hid (fun (w' : World) (hx : Nx w w') => hOK w' (h.below hx hB) (Nat.le_trans hB hx.size) hn hc hc3 hm)
    rw [hv] at HOK
    clear hOK h hn hc hc3 hm hv HT hIs hCt hVW
    obtain ⟨g, b, p, t, A, c, xs, A2, c2, ms, A3, c3, gs, A4, c4, im⟩ := V
    simp only [Vl.v, Vl.cells] at *
    have hx0 := (Nx.refl w).alloc (.cells #[.int .i64 g, .int .i64 b, .int .i64 p, .int .i64 t, .slice A xs.length c, .slice A2 ms.length c2, .slice A3 gs.length c3, .slice A4 im.length c4] 33)
    go_enter Tryz.func31, Tryz.ntmps31
    go_wp2_with fail
    generalize w.alloc (.cells #[.int .i64 g, .int .i64 b, .int .i64 p, .int .i64 t, .slice A xs.length c, .slice A2 ms.length c2, .slice A3 gs.length c3, .slice A4 im.length c4] 33) = W at *
    refine (HOK.out W hx0).mono ?_
    rintro e w1 ⟨rfl, hk⟩
    have hx := hx0.trans hk
    go_wp2
    go_ret2
    exact ⟨_, _, rfl, Sl.none_ _ _ _ _ _, hx⟩
  | true =>
    have HY := Lib.hid (Vl.y hv)
    have HOK := Lib.hid (fun (w' : World) (hx : Nx w w') => hOK w' (h.below hx hB) (Nat.le_trans hB hx.size) hn hc hc3 hm)
    have HVW := Lib.hid (fun (w' : World) (hx : Nx w w') => hVW w' (h.img.below hx hB) (Nat.le_trans hB hx.size) HY.out.l8)
    have HIs := Lib.hid (fun (w' : World) (hx : Nx w w') => hIs w' (h.sgs.below hx hB) (Nat.le_trans hB hx.size) HY.out.n4)
    have HCt := Lib.hid (fun (w' : World) (hx : Nx w w') hr => hCt w' (h.sgs.below hx hB) (Nat.le_trans hB hx.size) HY.out hr)
    have HLc := Lib.hid (show (cntV V.b V.p V.t V.gs V.im x).length = 8 by rw [cntV_len]; exact HY.out.l8)
    rw [hv] at HOK
    have HTn := Lib.hid (fun hr => ctR_none (x := x) hv hr)
    have HTy := Lib.hid (fun hr => ctR_yes (x := x) hv hr)
    obtain ⟨R, HRR⟩ : ∃ R, Hid (ctR V x = R) := ⟨_, rfl⟩
    rw [HRR.out] at HTn HTy ⊢
    clear HRR hOK h hn hc hc3 hm hv hIs hCt hVW
    obtain ⟨g, b, p, t, A, c, xs, A2, c2, ms, A3, c3, gs, A4, c4, im⟩ := V
    simp only [Vl.v, Vl.cells, Vl.w, Vl.wcells] at *
    have b0 := Box.new w 33 #[.int .i64 g, .int .i64 b, .int .i64 p, .int .i64 t, .slice A xs.length c, .slice A2 ms.length c2, .slice A3 gs.length c3, .slice A4 im.length c4]
    have hx0 := (Nx.refl w).alloc (.cells #[.int .i64 g, .int .i64 b, .int .i64 p, .int .i64 t, .slice A xs.length c, .slice A2 ms.length c2, .slice A3 gs.length c3, .slice A4 im.length c4] 33)
    go_enter Tryz.func31, Tryz.ntmps31
    go_wp2_with fail
    generalize w.alloc (.cells #[.int .i64 g, .int .i64 b, .int .i64 p, .int .i64 t, .slice A xs.length c, .slice A2 ms.length c2, .slice A3 gs.length c3, .slice A4 im.length c4] 33) = W at *
    refine (HOK.out W hx0).mono ?_
    rintro e w1 ⟨rfl, hk⟩
    have hx := hx0.trans hk
    have b1 := b0.nx hk
    clear b0 hx0 hk
    obtain ⟨y0, y1, y2, y3, y4, y5, y6, y7⟩ := b1.e8
    go_wp2_with fail
    clear y0 y1 y2 y3 y4 y5 y6 y7
    refine (HVW.out _ hx).mono ?_
    rintro e w2 ⟨rfl, hk⟩
    replace hx := hx.trans hk
    clear b1 hk
    have rz := Box.new w2 118 #[.int .i64 0, .int .i64 0, .int .i64 0, .int .i64 0, .slice none 0 0, .slice none 0 0, .slice none 0 0, .int .i64 0, .int .i64 0, .int .i64 0, .int .i64 0, .int .i64 0, .int .i64 0, .int .i64 0, .int .i64 0]
    have bv := rz.row #[.int .i64 g, .int .i64 b, .int .i64 p, .int .i64 t, .slice A xs.length c, .slice A2 ms.length c2, .slice A3 gs.length c3, inAt im 0, inAt im 1, inAt im 2, inAt im 3, inAt im 4, inAt im 5, inAt im 6, inAt im 7]
    have hx5 := (hx.alloc (.cells #[.int .i64 0, .int .i64 0, .int .i64 0, .int .i64 0, .slice none 0 0, .slice none 0 0, .slice none 0 0, .int .i64 0, .int .i64 0, .int .i64 0, .int .i64 0, .int .i64 0, .int .i64 0, .int .i64 0, .int .i64 0] 118)).setRow (g := w2.heap.size) hx.size #[.int .i64 g, .int .i64 b, .int .i64 p, .int .i64 t, .slice A xs.length c, .slice A2 ms.length c2, .slice A3 gs.length c3, inAt im 0, inAt im 1, inAt im 2, inAt im 3, inAt im 4, inAt im 5, inAt im 6, inAt im 7]
    obtain ⟨y0, y1, y2, y3, y4, y5, y6, y7, y8, y9, y10, y11, y12, y13, y14⟩ := bv.e15
    go_wp2_with (refine wpList_store_row rfl _ _ _ rfl w2.heap.size #[.int .i64 g, .int .i64 b, .int .i64 p, .int .i64 t, .slice A xs.length c, .slice A2 ms.length c2, .slice A3 gs.length c3, inAt im 0, inAt im 1, inAt im 2, inAt im 3, inAt im 4, inAt im 5, inAt im 6, inAt im 7] rfl rfl 118 #[.int .i64 0, .int .i64 0, .int .i64 0, .int .i64 0, .slice none 0 0, .slice none 0 0, .slice none 0 0, .int .i64 0, .int .i64 0, .int .i64 0, .int .i64 0, .int .i64 0, .int .i64 0, .int .i64 0, .int .i64 0] rz (by kernel_rfl) rfl (by simp [Value.oneCell', inAt]) ?_)
    clear y0 y1 y2 y3 y4 y5 y6 y7 y8 y9 y10 y11 y12 y13 y14 rz hx
    generalize (w2.alloc (.cells #[.int .i64 0, .int .i64 0, .int .i64 0, .int .i64 0, .slice none 0 0, .slice none 0 0, .slice none 0 0, .int .i64 0, .int .i64 0, .int .i64 0, .int .i64 0, .int .i64 0, .int .i64 0, .int .i64 0, .int .i64 0] 118)).setRow w2.heap.size #[.int .i64 g, .int .i64 b, .int .i64 p, .int .i64 t, .slice A xs.length c, .slice A2 ms.length c2, .slice A3 gs.length c3, inAt im 0, inAt im 1, inAt im 2, inAt im 3, inAt im 4, inAt im 5, inAt im 6, inAt im 7] = W5 at *
    generalize w2.heap.size = gV at *
    refine (HIs.out _ hx5).mono ?_
    rintro e w6 ⟨rfl, hk⟩
    have bv6 := bv.nx hk
    have hx6 := hx5.trans hk
    clear bv hx5 hk
    cases hr : isRet b gs x with
    | false =>
      have HR := Lib.hid (HTn.out hr)
      clear hr
      go_wp2
      go_ret2
      exact ⟨none, 0, by rw [HR.out]; rfl, by rw [HR.out]; exact Sl.none_ _ _ _ _ _, hx6⟩
    | true =>
    have HR := Lib.hid (HTy.out hr)
    have HCt' := Lib.hid (fun (w' : World) (hx : Nx w w') => HCt.out w' hx hr)
    clear hr
    obtain ⟨y0, y1, y2, y3, y4, y5, y6, y7, y8, y9, y10, y11, y12, y13, y14⟩ := bv6.e15
    go_wp2_with fail
    clear y0 y1 y2 y3 y4 y5 y6 y7 y8 y9 y10 y11 y12 y13 y14 bv6
    refine (HCt'.out _ hx6).mono ?_
    rintro e w7 ⟨rfl, hk⟩
    have hx7 := hx6.trans hk
    obtain ⟨ys, Hys⟩ : ∃ ys, Hid (cntV b p t gs im x = ys) := ⟨_, rfl⟩
    rw [Hys.out] at HLc HR ⊢
    go_wp2_with fail
    refine (valuesList_c ys _ HLc.out).mono ?_
    rintro e w8 ⟨A9, c9, rfl, hS, hk8⟩
    have hs := hx7.size
    go_wp2
    go_ret2
    exact ⟨A9, c9, by rw [HR.out]; rfl, by rw [HR.out]; exact hS.low hs, hx7.trans hk8⟩
end Go.Proofs.YtehahodomfbpjaaGreatDoor
/- The model's content at a position. Conditions: what is read can be read, and holds at most 1048576 elements of a kind. -/
namespace Go.Proofs.YtehahodomfbpjaaGreatDoor
set_option linter.unusedVariables false
set_option maxRecDepth 100000
open Go.RowKit

end Go.Proofs.YtehahodomfbpjaaGreatDoor
/- ContentAt, of the model. Conditions: what is read can be read, and holds at most 1048576 elements of a kind. -/
namespace Go.Proofs.YtehahodomfbpjaaGreatDoor
set_option linter.unusedVariables false
set_option maxRecDepth 100000
open Go.RowKit

end Go.Proofs.YtehahodomfbpjaaGreatDoor
/- Vaults in memory; contracts of the laws' functions that make vaults; a vault that comes in, opened. Conditions: what is read can be read; copied or compared: at most 1048576 elements of a kind. -/
namespace Go.Proofs.YtehahodomfbpjaaGreatDoor
set_option linter.unusedVariables false
set_option maxRecDepth 100000
open Go.Joins Go.ChangeShapes Go.WideShapes Go.RowKit Go.Deep


section
variable {H : Type} {enc : TypeId × Value → H} {w : World} {base : Nat} {spare : Nat → Bool} {held : Bool}
end
end Go.Proofs.YtehahodomfbpjaaGreatDoor
/- Contracts of the laws' functions that mark the memory of vaults: of what is marked only the shape is told. Conditions: the lists lie in blocks of the call's own; at most 1048576 of each. -/
namespace Go.Proofs.YtehahodomfbpjaaGreatDoor
set_option linter.unusedVariables false
set_option maxRecDepth 100000
open Go.RowKit

/-- Blocks of the call's own have kept their type and room. -/
def Shp (w w' : World) : Prop := ∀ g t m f, Own w g t m f → ∃ f', Own w' g t m f'
theorem Shp.refl (w : World) : Shp w w := fun _ _ _ f h => ⟨f, h⟩
theorem Shp.trans {a b c : World} (h : Shp a b) (k : Shp b c) : Shp a c := fun g t m f ho => by
  obtain ⟨f', h'⟩ := h g t m f ho; exact k g t m f' h'
theorem Own.setAny {w : World} {g m : Nat} {t : TypeId} {f : Nat → Value} (h : Own w g t m f) (i : Nat) (v : Value) : ∃ f', Own (w.setCell ⟨g, i, none⟩ v) g t m f' := by
  obtain ⟨cs, h, hm, hc⟩ := h
  refine ⟨fun j => if j = i then v else f j, cs.setIfInBounds i v, ?_, by simpa using hm, fun j hj => ?_⟩
  · simp [World.setCell, Array.getElem?_modify, h]
  · rw [Array.getElem?_setIfInBounds]
    by_cases e : i = j
    · subst e; rw [if_pos rfl, if_pos (by omega)]; simp
    · rw [if_neg e, hc j hj]; show some (f j) = some (if j = i then v else f j); rw [if_neg (fun h : j = i => e h.symm)]
theorem Shp.set {a w : World} (h : Shp a w) (g i : Nat) (v : Value) : Shp a (w.setCell ⟨g, i, none⟩ v) := fun g' t m f ho => by
  obtain ⟨f', h'⟩ := h g' t m f ho
  by_cases e : g' = g
  · subst e; exact h'.setAny i v
  · exact ⟨f', h'.far (by exact e) v⟩
theorem Shp.nx {a w w' : World} (h : Shp a w) (hb : Nx w w') : Shp a w' := fun g t m f ho => by
  obtain ⟨f', h'⟩ := h g t m f ho; exact ⟨f', h'.nx hb⟩
/-- Blocks of the call's own that hold neither segments nor changes have not turned. -/
def Ty2 (w w' : World) : Prop := ∀ g t m f, t ≠ 130 → t ≠ 202 → Own w g t m f → Own w' g t m f
theorem Ty2.refl (w : World) : Ty2 w w := fun _ _ _ _ _ _ h => h
theorem Ty2.trans {a b c : World} (h : Ty2 a b) (k : Ty2 b c) : Ty2 a c := fun g t m f h1 h2 ho => k g t m f h1 h2 (h g t m f h1 h2 ho)
theorem Ty2.set {a w : World} (h : Ty2 a w) {g i m : Nat} {f : Nat → Value} (ho : Own w g 130 m f) (v : Value) : Ty2 a (w.setCell ⟨g, i, none⟩ v) := fun g' t' m' f' h1 h2 h' =>
  (h g' t' m' f' h1 h2 h').far (Own.ne_type ho (h g' t' m' f' h1 h2 h') h1) v
end Go.Proofs.YtehahodomfbpjaaGreatDoor
/- Contract of the laws' function that marks the memory of a vault. Conditions: what is read can be read, and holds at most 1048576 elements of a kind. -/
namespace Go.Proofs.YtehahodomfbpjaaGreatDoor
set_option linter.unusedVariables false
set_option maxRecDepth 100000
open Go.RowKit

theorem Sr.own {w w' : World} {lo hi m : Nat} {A : Option Addr} {t : TypeId} {f : Nat → Value} (h : Sr w lo hi A t m f) (hk : ∀ g m f, Own w g t m f → Own w' g t m f) : Sr w' lo hi A t m f := fun hm => by
  obtain ⟨g, e, h1, h2, ho⟩ := h hm
  exact ⟨g, e, h1, h2, hk _ _ _ ho⟩
end Go.Proofs.YtehahodomfbpjaaGreatDoor
/- The walk of the law FnExactRetainedOf. Conditions: what is read can be read, and holds at most 1048576 elements of a kind. -/
namespace Go.Proofs.YtehahodomfbpjaaGreatDoor
set_option linter.unusedVariables false
set_option maxRecDepth 100000
open Go.RowKit

theorem VlS.ss {V V' : Vl} (h : VlS V V') : ssum V'.gs V'.gs.length = ssum V.gs V.gs.length := by
  unfold ssum
  rw [List.take_length, List.take_length]
  have := congrArg (List.map (fun q : Sg4 => q.2.2.2.length)) h.gs
  rw [List.map_map, List.map_map] at this
  exact congrArg List.sum this
theorem rtR_s {V V' : Vl} (h : VlS V V') : rtR V' = rtR V := by unfold rtR; rw [← h.ok, h.b, retL_v h.gs]
end Go.Proofs.YtehahodomfbpjaaGreatDoor
/- The walk of the law FnExactContentAt. Conditions: what is read can be read, and holds at most 1048576 elements of a kind. -/
namespace Go.Proofs.YtehahodomfbpjaaGreatDoor
set_option linter.unusedVariables false
set_option maxRecDepth 100000
open Go.RowKit

theorem ctR_s {V V' : Vl} (h : VlS V V') (x : Int) : ctR V' x = ctR V x := by unfold ctR; rw [← h.ok, h.b, h.p, h.t, h.im, isRet_v h.gs, cntV_v h.gs]
end Go.Proofs.YtehahodomfbpjaaGreatDoor
/- Contracts of the laws' functions on lists of bools, and a list of bools that comes in, opened. Conditions: what is read can be read, and holds at most 1048576 elements. -/
namespace Go.Proofs.YtehahodomfbpjaaGreatDoor
set_option linter.unusedVariables false
set_option maxRecDepth 100000
open Go.ChangeShapes Go.WideShapes Go.RowKit Go.Deep

def OwnB (w : World) (g : Nat) (bs : List Bool) : Prop := Own w g 4 bs.length (blAt bs)
def SrB (w : World) (lo hi : Nat) (A : Option Addr) (n : Nat) (bs : List Bool) : Prop := bs.length = n ∧ (0 < n → ∃ g, A = some ⟨g, 0, none⟩ ∧ lo ≤ g ∧ g < hi ∧ OwnB w g bs)
section
variable {w w' : World} {lo hi n a b : Nat} {A : Option Addr} {bs : List Bool}
theorem SrB.nx (h : SrB w lo hi A n bs) (hb : Nx w w') : SrB w' lo hi A n bs := ⟨h.1, fun hn => by obtain ⟨g, e, hl, hh, ho⟩ := h.2 hn; exact ⟨g, e, hl, hh, Own.nx ho hb⟩⟩
theorem SrB.rg (h : SrB w lo hi A n bs) (hb : Rg a b w w') (hd : hi ≤ a ∨ b ≤ lo) : SrB w' lo hi A n bs := ⟨h.1, fun hn => by obtain ⟨g, e, hl, hh, ho⟩ := h.2 hn; exact ⟨g, e, hl, hh, Own.rg ho hb (by omega)⟩⟩
end
end Go.Proofs.YtehahodomfbpjaaGreatDoor
/- Contracts of the model's drawn texts and keeps: a text of n letters, a list of at most three keeps that hangs on the code alone. Conditions: the code can be read, and holds at most 1048576 bytes. -/
namespace Go.Proofs.YtehahodomfbpjaaGreatDoor
set_option linter.unusedVariables false
set_option maxRecDepth 100000
open Go.RowKit

theorem Rg.grown {lo hi : Nat} {a w w' : World} {row : Option Nat} (h : Rg lo hi a w) (hg : w.grownBy w' row) (hrow : ∀ k, row = some k → a.heap.size ≤ k) : Rg lo hi a w' :=
  ⟨hg.os.trans h.os, hg.tape.trans h.tape, hg.output.trans h.output, Nat.le_trans h.size hg.size, fun k hk hr => (hg.block k (Nat.lt_of_lt_of_le hk h.size) (fun e => by have := hrow k e.symm; omega)).trans (h.block k hk hr)⟩
end Go.Proofs.YtehahodomfbpjaaGreatDoor
/- Contracts of the model's drawn disk, text and keeps, of a code. Conditions: the code can be read, and holds at most 1048576 bytes. -/
namespace Go.Proofs.YtehahodomfbpjaaGreatDoor
set_option linter.unusedVariables false
set_option maxRecDepth 100000
open Go.RowKit

theorem box_own {w : World} {g : Nat} {t : TypeId} {cs : Array Value} (h : Box w g t cs) : Own w g t 0 (fun _ => .bool false) := ⟨cs, h, Nat.zero_le _, fun i hi => absurd hi (by omega)⟩
theorem SlS.put {w : World} {lo n gd i : Nat} {A : Option Addr} {ss : List ByteArray} {cs : Array Value} (h : SlS w lo A n ss) (hb : Box w gd 38 cs) (v : Value) : SlS (w.setCell ⟨gd, i, none⟩ v) lo A n ss :=
  ⟨h.1, fun hn => by obtain ⟨g, e, hl, ho⟩ := h.2 hn; exact ⟨g, e, hl, Own.far ho (Own.ne_type (box_own hb) ho (by decide)) v⟩⟩
theorem SlW.put {w : World} {lo n gd i : Nat} {A : Option Addr} {ws : List (Int × ByteArray)} {cs : Array Value} (h : SlW w lo A n ws) (hb : Box w gd 38 cs) (v : Value) : SlW (w.setCell ⟨gd, i, none⟩ v) lo A n ws :=
  ⟨h.1, fun hn => by obtain ⟨g, e, hl, ho⟩ := h.2 hn; exact ⟨g, e, hl, Own.far ho (Own.ne_type (box_own hb) ho (by decide)) v⟩⟩
theorem SlS.rg {w w' : World} {lo n a b : Nat} {A : Option Addr} {ss : List ByteArray} (h : SlS w lo A n ss) (hb : Rg a b w w') (hd : b ≤ lo) : SlS w' lo A n ss := (h.sr.rg hb (.inr hd)).sl
theorem SlW.rg {w w' : World} {lo n a b : Nat} {A : Option Addr} {ws : List (Int × ByteArray)} (h : SlW w lo A n ws) (hb : Rg a b w w') (hd : b ≤ lo) : SlW w' lo A n ws := (h.sr.rg hb (.inr hd)).sl

end Go.Proofs.YtehahodomfbpjaaGreatDoor
/- Contracts of SameDisk, as the model and as the program have it (the program's through the library's slices.Equal): both answer whether all is alike. Conditions: both disks can be read, and hold at most 1048576 elements of a kind. -/
namespace Go.Proofs.YtehahodomfbpjaaGreatDoor
set_option linter.unusedVariables false
set_option maxRecDepth 100000
open Go.RowKit

def SameTo {α : Type} (p : α → α → Bool) (d : α) (l m : List α) (k : Nat) : Prop := ∀ i, i < k → p (l.getD i d) (m.getD i d) = true
section
variable {α : Type} {p : α → α → Bool} {d : α} {l m : List α} {k : Nat}
theorem SameTo.zero : SameTo p d l m 0 := fun i hi => absurd hi (by omega)
theorem SameTo.succ {x y : α} (h : SameTo p d l m k) (hx : l.getD k d = x) (hy : m.getD k d = y) (he : p x y = true) : SameTo p d l m (k + 1) := fun i hi => by
  rcases Nat.lt_or_ge i k with hlt | hge
  · exact h i hlt
  · obtain rfl : i = k := by omega
    rw [hx, hy]; exact he
end

end Go.Proofs.YtehahodomfbpjaaGreatDoor
/- Contracts of the laws' functions that draw a number and that compare disks with nothing cached; the model's drawn disk of a code. Conditions: what is read can be read. -/
namespace Go.Proofs.YtehahodomfbpjaaGreatDoor
set_option linter.unusedVariables false
set_option maxRecDepth 100000
open Go.RowKit

set_option maxRecDepth 100000 in
set_option maxHeartbeats 1000000 in
theorem sameTexts_c (A A2 : Option Addr) (n c c2 B : Nat) (ss : List ByteArray) (w : World) (h : Strs w B A n ss) (h2 : Strs w B A2 n ss) (hB : B ≤ w.heap.size) (hn : n ≤ 1048576) :
    Calls Tryz.prog 100 #[.slice A n c, .slice A2 n c2] w fun e w' => e = .returned (.bool true) ∧ Nx w w' := by
  go_enter Tryz.func100, Tryz.ntmps100
  go_wp2
  go_loopw [5] (fun i wr => ∃ k : Nat, k ≤ n ∧ i = .int .i64 k ∧ Nx w wr) (fun i _ => n - (intOf i).toNat)
  case atStart => exact ⟨0, Nat.zero_le _, rfl, Nx.refl _⟩
  case round =>
    obtain ⟨k, hk, rfl, hnx⟩ := hrel
    by_cases hlt : k < n
    · obtain ⟨b, off, rfl, hb, hc⟩ := (h.below hnx hB).at_ hlt
      obtain ⟨b2, off2, rfl, hb2, hc2⟩ := (h2.below hnx hB).at_ hlt
      generalize ss.getD k ByteArray.empty = s at hc hc2
      go_wp2
      go_quiet (fail)
      go_wp2
      go_roundw
      case rel => exact ⟨k + 1, by omega, by go_num, hnx.drewN _⟩
      case measure => simp [intOf]; omega
    · go_wp2
      go_ret
      exact ⟨rfl, hnx⟩

set_option maxRecDepth 100000 in
set_option maxHeartbeats 1000000 in
theorem sameDisk_c (A A2 A3 A4 : Option Addr) (n c c3 c2 c4 B : Nat) (ss : List ByteArray) (w : World) (h : Strs w B A n ss) (h3 : Strs w B A3 n ss)
    (hB : B ≤ w.heap.size) (hn : n ≤ 1048576) :
    Calls Tryz.prog 33 #[.agg #[.slice A n c, .slice A2 0 c2], .agg #[.slice A3 n c3, .slice A4 0 c4]] w fun e w' => e = .returned (.bool true) ∧ Nx w w' := by
  go_enter Tryz.func33, Tryz.ntmps33
  go_wp2_with fail
  have b0 := (Box.new w 38 #[.slice A n c, .slice A2 0 c2]).alloc (.cells #[.slice A3 n c3, .slice A4 0 c4] 38)
  have b1 := Box.new (w.alloc (.cells #[.slice A n c, .slice A2 0 c2] 38)) 38 #[.slice A3 n c3, .slice A4 0 c4]
  have hnx0 := ((Nx.refl w).alloc (.cells #[.slice A n c, .slice A2 0 c2] 38)).alloc (.cells #[.slice A3 n c3, .slice A4 0 c4] 38)
  simp only [World.size_alloc] at b1
  generalize ((w.alloc (.cells #[.slice A n c, .slice A2 0 c2] 38)).alloc (.cells #[.slice A3 n c3, .slice A4 0 c4] 38)) = W at *
  refine (sameTexts_c A A3 n c c3 B ss _ (h.below hnx0 hB) (h3.below hnx0 hB) (Nat.le_trans hB hnx0.size) hn).mono ?_
  rintro e w1 ⟨rfl, hnx1⟩
  have b0' := b0.nx hnx1
  have b1' := b1.nx hnx1
  have c00 := b0'.c0
  have c01 := b0'.c1
  have c10 := b1'.c0
  have c11 := b1'.c1
  have hnx2 := hnx0.trans hnx1
  go_wp2
  go_loopw [5] (fun i wr => i = .int .i64 0 ∧ wr = w1) (fun i _ => 0)
  case atStart => exact ⟨rfl, rfl⟩
  case round =>
    obtain ⟨rfl, rfl⟩ := hrel
    go_wp2
    go_ret
    exact ⟨rfl, hnx2⟩
end Go.Proofs.YtehahodomfbpjaaGreatDoor
/- Contract of the model's l02Read. Conditions: texts of at most 65536 bytes. -/
namespace Go.Proofs.YtehahodomfbpjaaGreatDoor
set_option linter.unusedVariables false
set_option maxRecDepth 100000
open Go.RowKit

end Go.Proofs.YtehahodomfbpjaaGreatDoor
/- Contracts of the model's l05Load and LoadVault. Conditions: the disk can be read, and holds at most 1048576 elements of a kind. -/
namespace Go.Proofs.YtehahodomfbpjaaGreatDoor
set_option linter.unusedVariables false
set_option maxRecDepth 100000
open Go.RowKit

end Go.Proofs.YtehahodomfbpjaaGreatDoor
/- Contract of the model's LoadVault. Conditions: the disk can be read, and holds at most 1048576 elements of a kind. -/
namespace Go.Proofs.YtehahodomfbpjaaGreatDoor
set_option linter.unusedVariables false
set_option maxRecDepth 100000
open Go.RowKit

end Go.Proofs.YtehahodomfbpjaaGreatDoor
/- Contracts of the laws' functions that count the sizes of disks. Conditions: what is counted can be read. -/
namespace Go.Proofs.YtehahodomfbpjaaGreatDoor
set_option linter.unusedVariables false
set_option maxRecDepth 100000
open Go.RowKit

end Go.Proofs.YtehahodomfbpjaaGreatDoor
/- Contracts of the laws' functions that mark the memory of vaults and look for the marks, for vaults whose rows are told apart. Conditions: the lists lie in blocks of the call's own; a vault of at most 20 segments. -/
namespace Go.Proofs.YtehahodomfbpjaaGreatDoor
set_option linter.unusedVariables false
set_option maxRecDepth 100000
open Go.RowKit

/-- Only a row's own block has turned. -/
def Only (n : Nat) (A : Option Addr) (w w' : World) : Prop := ∀ g t m f, (0 < n → A ≠ some ⟨g, 0, none⟩) → Own w g t m f → Own w' g t m f
theorem Only.refl (n : Nat) (A : Option Addr) (w : World) : Only n A w w := fun _ _ _ _ _ h => h
theorem Only.set {n g i : Nat} {a w : World} (h : Only n (some ⟨g, 0, none⟩) a w) (hn : 0 < n) (v : Value) : Only n (some ⟨g, 0, none⟩) a (w.setCell ⟨g, i, none⟩ v) := fun g' t m f hne ho =>
  (h g' t m f hne ho).far (fun e => hne hn (by rw [show g' = g from e])) v
theorem Sr.only {w w' : World} {lo hi m n : Nat} {A A2 : Option Addr} {t : TypeId} {f : Nat → Value} (h : Sr w lo hi A t m f) (hb : Only n A2 w w') (hne : 0 < m → 0 < n → A ≠ A2) : Sr w' lo hi A t m f := fun hm => by
  obtain ⟨g, e, h1, h2, ho⟩ := h hm
  exact ⟨g, e, h1, h2, hb g t m f (fun hn he => hne hm hn (by rw [e, he])) ho⟩
end Go.Proofs.YtehahodomfbpjaaGreatDoor
/- Contracts of the laws' functions that mark the memory of lists of segments and look for the marks. Conditions: the rows lie in blocks of the call's own and are told apart; at most 20 segments. -/
namespace Go.Proofs.YtehahodomfbpjaaGreatDoor
set_option linter.unusedVariables false
set_option maxRecDepth 100000
open Go.RowKit

/-- The mark that a segment begins with. -/
def kOf (gs : List SgR) (k j : Nat) : Nat := k + j * 3 + ssum gs j * 3
def mkSg (gs : List SgR) (k i : Nat) : Value := if i % 4 = 3 then sgAt gs i else .int .i64 ((kOf gs k (i / 4) + i % 4 : Nat) : Int)
end Go.Proofs.YtehahodomfbpjaaGreatDoor
/- Contracts of the laws' functions that mark the memory of a vault and look for the marks. Conditions: the vault's rows lie in blocks of the call's own and are told apart; its lists are short. -/
namespace Go.Proofs.YtehahodomfbpjaaGreatDoor
set_option linter.unusedVariables false
set_option maxRecDepth 100000
open Go.RowKit

def k1V (V : Vl) : Nat := 1 + V.xs.length + V.ms.length * 2
/-- A vault's memory, marked. -/
structure MkV (w : World) (lo mid hi : Nat) (V : Vl) : Prop where
  tab : Sr w lo mid V.A 3 V.xs.length (mkAt 1)
  mks : Sr w lo mid V.A2 199 (V.ms.length * 2) (mrAt (markM (1 + V.xs.length) V.ms.length))
  row : Sr w mid hi V.A3 130 (V.gs.length * 4) (mkSg V.gs (k1V V))
  chs : ∀ i, i < V.gs.length → Sr w mid hi (V.gs.getD i sgZ).A 202 ((V.gs.getD i sgZ).cs.length * 3) (markAt (kOf V.gs (k1V V) i + 3))
  img : Sr w mid hi V.A4 3 V.im.length (mkAt (kOf V.gs (k1V V) V.gs.length))
theorem MkV.nx {w w' : World} {lo mid hi : Nat} {V : Vl} (h : MkV w lo mid hi V) (hb : Nx w w') : MkV w' lo mid hi V := ⟨h.tab.nx hb, h.mks.nx hb, h.row.nx hb, fun k hk => (h.chs k hk).nx hb, h.img.nx hb⟩
theorem Rg.up {lo lo' hi hi' : Nat} {w w' : World} (h : Rg lo hi w w') (h1 : lo' ≤ lo) (h2 : hi ≤ hi') : Rg lo' hi' w w' := ⟨h.os, h.tape, h.output, h.size, fun k hk hr => h.block k hk (by rcases hr with hr | hr <;> omega)⟩
end Go.Proofs.YtehahodomfbpjaaGreatDoor
/- The walk of the law FnExactLoadVault. Conditions: the disk that comes in can be read; the package's errors are known; the library's variables MaxLen and errorType too. -/
namespace Go.Proofs.YtehahodomfbpjaaGreatDoor
set_option linter.unusedVariables false
set_option maxRecDepth 100000
open Go.RowKit

theorem RetLd.un {w w' : World} {e : Ending} {g b p q : Int} {xs : List Int} {ms : List Mrk} {gs : List SgR} {im : List Int} {A0 A1 A2 A3 : Option Addr} {k0 k1 k2 k3 : Nat} {cd : Int} (h : RetLd w (⟨g, b, p, q, A0, k0, xs, A1, k1, ms, A2, k2, gs, A3, k3, im⟩, cd) e w') :
    ∃ A c A2' c2 A3' c3 gs' A4 c4 mid, e = .returned (.tuple #[.agg #[.int .i64 g, .int .i64 b, .int .i64 p, .int .i64 q, .slice A xs.length c, .slice A2' ms.length c2, .slice A3' gs'.length c3, .slice A4 im.length c4], .int .i64 cd])
      ∧ VlS ⟨g, b, p, q, A0, k0, xs, A1, k1, ms, A2, k2, gs, A3, k3, im⟩ ⟨g, b, p, q, A, c, xs, A2', c2, ms, A3', c3, gs', A4, c4, im⟩ ∧ VlP w' w.heap.size mid w'.heap.size ⟨g, b, p, q, A, c, xs, A2', c2, ms, A3', c3, gs', A4, c4, im⟩ ∧ Nx w w' := by
  obtain ⟨⟨g5, b5, p5, t5, A5, c5, xs5, A25, c25, ms5, A35, c35, gs5, A45, c45, im5⟩, mid, rfl, hs, hp, hk⟩ := h
  obtain ⟨e1, e2, e3, e4, e5, e6, e7, e8⟩ := hs
  simp only at e1 e2 e3 e4 e5 e6 e7 e8
  subst e1 e2 e3 e4 e5 e6 e8
  exact ⟨A5, c5, A25, c25, A35, c35, gs5, A45, c45, mid, rfl, ⟨rfl, rfl, rfl, rfl, rfl, rfl, e7, rfl⟩, hp, hk⟩
theorem MkV.rg {w w' : World} {lo mid hi a b : Nat} {V : Vl} (h : MkV w lo mid hi V) (hb : Rg a b w w') (hd : hi ≤ a ∨ b ≤ lo) (h1 : lo ≤ mid) (h2 : mid ≤ hi) : MkV w' lo mid hi V :=
  ⟨h.tab.rg hb (by omega), h.mks.rg hb (by omega), h.row.rg hb (by omega), fun k hk => (h.chs k hk).rg hb (by omega), h.img.rg hb (by omega)⟩
theorem VlP.rg {w w' : World} {lo mid hi a b : Nat} {V : Vl} (h : VlP w lo mid hi V) (hb : Rg a b w w') (hd : hi ≤ a ∨ b ≤ lo) : VlP w' lo mid hi V :=
  have h1 := h.le
  have h2 := h.le2
  ⟨h.tab.rg hb (by omega), h.mks.rg hb (by omega), h.row.rg hb (by omega), fun k hk => (h.chs k hk).rg hb (by omega), h.img.rg hb (by omega), h.dj, h.cap, h.cap3, h.le, h.le2⟩
end Go.Proofs.YtehahodomfbpjaaGreatDoor
/- The walk of the law FnFormat. Conditions: the bytes that come in can be read; the package's errors are known; the library's variables MaxLen and errorType and its table of powers of ten too. -/
namespace Go.Proofs.YtehahodomfbpjaaGreatDoor
set_option linter.unusedVariables false
set_option maxRecDepth 100000
open Go.RowKit

theorem RetIC.un {w w' : World} {ys zs : List Int} {cd cd' : Int} {e : Ending} (h : RetIC w ys cd e w') (h1 : ys = zs) (h2 : cd = cd') : RetIC w zs cd' e w' := by subst h1 h2; exact h
set_option maxHeartbeats 8000000 in
theorem lawFormat (A : Option Addr) (n c : Nat) (ys : List Nat) (w : World) (a0 a1 : Addr) (hE : Er w a0 a1) (hM : Mx w) (hEt : Et w) (hT : Tab w) (h : U8s w w.heap.size A n ys) (hn : n ≤ 2 ^ 63 - 1) :
    Calls Tryz.prog 6 #[.slice A n c] w fun e w' => e = .returned (.bool true) ∧ Nx w w' := by
  by_cases hl : n ≤ 1048576
  case neg =>
    have hd : decide (1048576 < (n : Int)) = true := by simp; omega
    go_enter Tryz.func6, Tryz.ntmps6
    go_wp2
    go_ret
    exact ⟨rfl, Nx.refl _⟩
  have hd : decide (1048576 < (n : Int)) = false := by simp; omega
  go_enter Tryz.func6, Tryz.ntmps6
  go_wp2_with fail
  refine (contentDrawn_c A n c ys w h hl).mono ?_
  rintro e w1 ⟨A1, c1, xs, rfl, hx8, hSm, hS, hk1⟩
  have hc : contB xs = true := hSm.cont hx8
  have HC := Lib.hid hc
  have H8 := Lib.hid hx8
  have HFm := Lib.hid (fmP_yes hc)
  have HY := Lib.hid (fmV_y hc)
  have Hct0 := Lib.hid (fmV_ct0 hc)
  have Hct1 := Lib.hid (fmV_ct1 hc)
  have Hrt := Lib.hid (fmV_rt hc)
  have hld := fun A A2 n c n2 c2 B ww => implLoadVault_c A A2 n c n2 c2 B (fmT xs 8) [] ww a0 a1
  rw [fmT_ld hc] at hld
  have HLd := Lib.hid hld
  have hfi := fun c0 B ww => implFormatVault_c A1 c0 B xs ww _ _ _ (fmP_yes hc)
  have hfs := fun c0 B ww => specFormatVault_c A1 c0 B xs ww _ _ _ (fmP_yes hc)
  rw [hx8] at hfi hfs
  have HFi := Lib.hid hfi
  have HFs := Lib.hid hfs
  clear hc hSm hld hfi hfs
  have hI : Ins w1 w1.heap.size A1 xs := hS.row
  go_wp2_with fail
  refine (HFi.out c1 _ w1 hI (Nat.le_refl _) (by omega) (hT.nx hk1)).mono ?_
  rintro e w2 ⟨G1, p, g1, G2, q, g2, rfl, gS, gW, hk⟩
  obtain rfl : 64 = p := (fmT_len xs 8).symm.trans gS.1
  obtain rfl : 0 = q := gW.1
  have G := Dk.new (c := g1) (c2 := g2) gS gW
  have hkk := hk.alloc (.cells #[.slice G1 64 g1, .slice G2 0 g2] 38)
  have hI2 := hI.below hkk (Nat.le_refl _)
  have hx2 := hk1.trans hkk
  have ho2 := hkk.size
  clear hk hkk gS gW hS hx8
  go_wp2_with fail
  generalize w2.alloc (.cells #[.slice G1 64 g1, .slice G2 0 g2] 38) = w3 at *
  refine (HFs.out c1 _ w3 hI2 ho2 (by have := H8.out; omega)).mono ?_
  rintro e w4 ⟨D1, p, d1, D2, q, d2, rfl, dS, dW, hk⟩
  obtain rfl : 64 = p := (fmT_len xs 8).symm.trans dS.1
  obtain rfl : 0 = q := dW.1
  have D := Dk.new (c := d1) (c2 := d2) dS dW
  have hkk := hk.alloc (.cells #[.slice D1 64 d1, .slice D2 0 d2] 38)
  have G5 := G.nx hkk
  have hI5 := hI2.below hkk ho2
  have hx5 := hx2.trans hkk
  have ho5 := Nat.le_trans ho2 hkk.size
  clear hk hkk dS dW G hI2 hx2 ho2
  have y0 := G5.c0
  have y1 := G5.c1
  go_wp2_with fail
  generalize w4.alloc (.cells #[.slice D1 64 d1, .slice D2 0 d2] 38) = w5 at *
  refine (HLd.out G1 G2 64 g1 0 g2 _ w5 G5.strs G5.wrs (Nat.le_refl _) (by omega) (by omega) (hE.nx hx5) (hM.nx hx5) (hEt.nx hx5)).mono ?_
  rintro e w6 hR
  obtain ⟨Ax, cx, Am, cm, Ag, cg, gs, Ai, ci, mid, rfl, hs, hp, hk⟩ := hR.un
  obtain rfl : gs = [] := by have := hs.gs; simpa [fmV] using this
  have HB6 := Lib.hid (VlB.s (V := fmV xs) ⟨by simp [fmV], by simp [fmV], by simp [fmV], fun k hk => absurd hk (by simp [fmV]), by show xs.length ≤ 8; have := H8.out; omega, by simp [fmV, ssum], fun k => by simp [fmV, mrZ]⟩ hs)
  have Hc0 := Lib.hid ((ctR_s hs 0).trans Hct0.out)
  have Hc1 := Lib.hid ((ctR_s hs 1).trans Hct1.out)
  have Hr := Lib.hid ((rtR_s hs).trans Hrt.out)
  have hz := (Nx.refl w6).alloc (.cells #[.int .i64 1, .int .i64 0, .int .i64 0, .int .i64 0, .slice Ax 0 cx, .slice Am 0 cm, .slice Ag 0 cg, .slice Ai 8 ci] 33)
  have P := hp.nx hz
  have B := Box.new w6 33 #[.int .i64 1, .int .i64 0, .int .i64 0, .int .i64 0, .slice Ax 0 cx, .slice Am 0 cm, .slice Ag 0 cg, .slice Ai 8 ci]
  have hkk := hk.trans hz
  have G7 := G5.nx hkk
  have D7 := D.nx hkk
  have hI7 := hI5.below hkk ho5
  have hx7 := hx5.trans hkk
  have ho7 := Nat.le_trans ho5 hkk.size
  obtain ⟨x0, x1, x2, x3, x4, x5, x6, x7⟩ := B.e8
  have hq := H8.out
  clear y0 y1 hR hp hk hz hkk G5 D hI5 hx5 ho5 hs
  simp only [List.length_nil]
  rw [hq]
  go_wp2_with fail
  clear x0 x1 x2 x3 x4 x5 x6 x7
  generalize w6.alloc (.cells #[.int .i64 1, .int .i64 0, .int .i64 0, .int .i64 0, .slice Ax 0 cx, .slice Am 0 cm, .slice Ag 0 cg, .slice Ai 8 ci] 33) = w7 at *
  have hca := fun x ww => implContentAt_c ⟨1, 0, 0, 0, Ax, cx, [], Am, cm, [], Ag, cg, [], Ai, ci, xs⟩ x ww.heap.size ww
  have hre := fun ww => implRetainedOf_c ⟨1, 0, 0, 0, Ax, cx, [], Am, cm, [], Ag, cg, [], Ai, ci, xs⟩ ww.heap.size ww
  simp only [Vl.v, Vl.cells, List.length_nil] at hca hre
  rw [hq] at hca hre
  clear hq
  refine ((hca 0 w7 P.own.vlt (Nat.le_refl _) HB6.out.n P.cap P.cap3 HB6.out.mka).mono ?_)
  intro e w8 hR
  obtain ⟨C1, k1, rfl, cS, hk⟩ := hR.un (congrArg Prod.fst Hc0.out) (congrArg Prod.snd Hc0.out)
  have P8 := P.nx hk
  have B8 := B.nx hk
  have G8 := G7.nx hk
  have D8 := D7.nx hk
  have hI8 := hI7.below hk ho7
  have hx8 := hx7.trans hk
  have ho8 := Nat.le_trans ho7 hk.size
  clear hR hk P B G7 D7 hI7 hx7 ho7
  obtain ⟨x0, x1, x2, x3, x4, x5, x6, x7⟩ := B8.e8
  have hq := H8.out
  rw [hq]
  go_wp2_with fail
  clear x0 x1 x2 x3 x4 x5 x6 x7
  refine ((hre w8 P8.own.vlt (Nat.le_refl _) HB6.out.n P8.cap P8.cap3 HB6.out.mka).mono ?_)
  intro e w9 hR
  obtain ⟨C2, k2, rfl, rS, hk⟩ := hR.un (congrArg Prod.fst Hr.out) (congrArg Prod.snd Hr.out)
  have P9 := P8.nx hk
  have B9 := B8.nx hk
  have G9 := G8.nx hk
  have D9 := D8.nx hk
  have cS9 := cS.nx hk
  have hI9 := hI8.below hk ho8
  have hx9 := hx8.trans hk
  have ho9 := Nat.le_trans ho8 hk.size
  clear hR hk P8 B8 G8 D8 cS hI8 hx8 ho8 hre
  obtain ⟨x0, x1, x2, x3, x4, x5, x6, x7⟩ := B9.e8
  simp only [List.length_cons, List.length_nil, Nat.zero_add]
  go_wp2_with fail
  clear x0 x1 x2 x3 x4 x5 x6 x7
  refine ((hca 1 w9 P9.own.vlt (Nat.le_refl _) HB6.out.n P9.cap P9.cap3 HB6.out.mka).mono ?_)
  intro e wa hR
  obtain ⟨C3, k3, rfl, _, hk⟩ := hR.un (congrArg Prod.fst Hc1.out) (congrArg Prod.snd Hc1.out)
  have Ga := G9.nx hk
  have Da := D9.nx hk
  have cSa := cS9.nx hk
  have rSa := rS.nx hk
  have hIa := hI9.below hk ho9
  have hxa := hx9.trans hk
  have hoa := Nat.le_trans ho9 hk.size
  clear hR hk P9 B9 G9 D9 cS9 rS hI9 hx9 ho9 hca
  have y0 := Ga.c0
  have y1 := Ga.c1
  have z0 := Da.c0
  have z1 := Da.c1
  go_wp2_with fail
  refine (sameDisk_c G1 G2 D1 D2 64 g1 d1 g2 d2 _ (fmT xs 8) wa Ga.strs Da.strs (Nat.le_refl _) (by omega)).mono ?_
  rintro e wb ⟨rfl, hk⟩
  have cSb := cSa.nx hk
  have rSb := rSa.nx hk
  have hIb := hIa.below hk hoa
  have hxb := hxa.trans hk
  have hob := Nat.le_trans hoa hk.size
  clear hk Ga Da cSa rSa hIa hxa hoa y0 y1 z0 z1
  have hsi := sameInts_c C1 A1 k1 c1 wb.heap.size xs wb cSb.row (hIb.more hob) (Nat.le_refl _) (by have := H8.out; omega)
  rw [hq] at hsi
  go_wp2_with fail
  refine hsi.mono ?_
  rintro e wc ⟨rfl, hk⟩
  have rSc := rSb.nx hk
  have hxc := hxb.trans hk
  clear hk hsi cSb rSb hIb hxb hob hq
  have hz := (Nx.refl wc).alloc (.cells #[.int .i64 0] 3)
  have rSd := rSc.nx hz
  have hxd := hxc.trans hz
  have bN := Box.new wc 3 #[.int .i64 0]
  have hrw : Ins (wc.alloc (.cells #[.int .i64 0] 3)) (wc.heap.size + 1) (some ⟨wc.heap.size, 0, none⟩) [0] := fun _ => ⟨wc.heap.size, 0, rfl, by omega, fun i hi => by obtain rfl : i = 0 := (by simpa using hi); exact bN.cell 0⟩
  have hse := sameInts_c C2 (some ⟨wc.heap.size, 0, none⟩) k2 1 (wc.alloc (.cells #[.int .i64 0] 3)).heap.size [0] (wc.alloc (.cells #[.int .i64 0] 3)) rSd.row (hrw.more (by rw [World.size_alloc]; exact Nat.le_refl _)) (Nat.le_refl _) (by simp)
  have HSe := Lib.hid hse
  clear hse hrw bN rSc rSd hz hxc
  go_wp2_with fail
  refine HSe.out.mono ?_
  rintro e wd ⟨rfl, hk⟩
  have hxe := hxd.trans hk
  go_wp2
  go_ret
  exact ⟨rfl, hxe⟩
end Go.Proofs.YtehahodomfbpjaaGreatDoor
/- From the listed errors, tables and type to what is known of them in memory, the world's shape kept. Conditions: the package's errors and the library's tables read as the program's text lays them, and the library's errorType too. -/
namespace Go.Proofs.YtehahodomfbpjaaGreatDoor
set_option maxRecDepth 100000
open Go.ChangeShapes Go.WideShapes Go.ChangeAt Go.WideMaps Go.WideElems Go.RowKit
theorem ownP : ownKnob Tryz.prog.godebug = none := by kernel_rfl
theorem laidOutP : laidOutB Tryz.prog = true := by kernel_rfl
theorem gLongP : Tryz.prog.globalNamed "loop.example/g00608/impl.errTextLong" = some 1 := by kernel_rfl
theorem gFormP : Tryz.prog.globalNamed "loop.example/g00608/impl.errTextForm" = some 0 := by kernel_rfl
theorem tLongP : (Tryz.prog.globals[1]?).map (·.type) = some 136 := by kernel_rfl
theorem tFormP : (Tryz.prog.globals[0]?).map (·.type) = some 136 := by kernel_rfl
theorem starP : "*" ++ "errors.errorString" = "*errors.errorString" := by decide
theorem rowEP (u : TypeId) (h : Tryz.prog.typeName? 3 u = some "*errors.errorString") : u = 304 :=
  typeName_ptr_named (nm := "errors.errorString") (by rw [starP]; kernel_rfl) (by kernel_rfl) (by decide) u (by rw [starP]; exact h)
theorem cellsEP : Tryz.prog.cellsOf 322 = 1 := by kernel_rfl
theorem cellsSP : Tryz.prog.cellsOf 9 = 1 := by kernel_rfl

theorem etP : Tryz.prog.globalNamed "errors.errorType" = some 2 := by kernel_rfl
theorem rtP : (Tryz.prog.cutTypes.find? (·.1 == "internal/reflectlite.rtype")).map (·.2) = some 262 := by kernel_rfl
theorem oneRowP : ((List.range (434 - 100)).filter fun t => Tryz.prog.rowNamed t [101, 114, 114, 111, 114]) = [136] := by kernel_rfl
theorem sizeP : Tryz.prog.types.size = 434 - 100 := by kernel_rfl
/-- The world with the type laid, ahead of the other variables. -/
noncomputable def typeWorld (os : Os) : World :=
  let w0 := World.holding Tryz.prog os ⟨#[], #[], []⟩
  { w0 with heap := w0.heap.modify 2 fun
      | .cells _ t frozen => .cells #[.iface 262 (.agg #[.pointer (some ⟨9, 136, none⟩)])] t frozen
      | o => o }
theorem et_of_handle {W : World} {l : List (String × DataW Unit)} (h : handlesMet Tryz.prog l W) (hl : ("errors.errorType", Rows.laid_errors_errorType) ∈ l) : Et W := by
  obtain ⟨name, u, ty, e1, e2, e3, e4, e5⟩ := h _ hl
  have en : name = [101, 114, 114, 111, 114] := (Option.some.inj e1).symm
  subst en
  obtain rfl := Option.some.inj (rtP.symm.trans e2)
  have hm : ty ∈ (List.range (434 - 100)).filter fun t => Tryz.prog.rowNamed t [101, 114, 114, 111, 114] := List.mem_filter.2 ⟨List.mem_range.2 (by rw [← sizeP]; exact e3), e4⟩
  rw [oneRowP] at hm
  obtain rfl := List.mem_singleton.1 hm
  have hh : typeHandle Tryz.prog 136 = .pointer (some ⟨9, 136, none⟩) := by kernel_rfl
  rw [hh] at e5
  unfold Et
  simpa using World.var?_cell etP e5 0
theorem laid_over {w0 : World} {laid : List (String × DataW Unit)} (args : Array Value) (hf : w0.layFits Tryz.prog laid [] = true) (hi : w0.layIfaces Tryz.prog laid (w0.layVars Tryz.prog laid) = true) :
    laidMet Tryz.prog laid ((w0.layVars Tryz.prog laid).forCall (fun _ _ => 0) ⟨#[], args, []⟩).memory := by
  have e1 : (laid.filter fun x => (laid.map (·.1)).contains x.1) = laid := List.filter_eq_self.2 fun x hx => List.contains_iff_mem.2 (List.mem_map.2 ⟨x, hx, rfl⟩)
  have e2 : (laid.filter fun x => !(laid.map (·.1)).contains x.1) = [] := List.filter_eq_nil_iff.2 fun x hx => by rw [List.contains_iff_mem.2 (List.mem_map.2 ⟨x, hx, rfl⟩)]; simp
  have h : laidMet Tryz.prog laid (w0.layVars Tryz.prog laid) := laidMet_layVars (w0 := w0) (laid.map (·.1)) [] (by rw [e1]) (by rw [e1]; exact hf) (by rw [e1]; exact hi) (by rw [e2]; exact LaidIn.none)
  exact h.of_heap (by simp [World.memory, World.forCall, Input.heap])
def plainQ : List (String × DataW Unit) := [("math/bits.deBruijn32tab", Rows.laid_math_bits_deBruijn32tab), ("math/bits.deBruijn64tab", Rows.laid_math_bits_deBruijn64tab), ("internal/strconv.uint64pow10", Rows.laid_internal_strconv_uint64pow10), ("unicode/utf8.acceptRanges", Rows.laid_unicode_utf8_acceptRanges), ("loop.example/g00608/impl.errTextLong", Rows.laid_loop_example_g00608_impl_errTextLong), ("loop.example/g00608/impl.errTextForm", Rows.laid_loop_example_g00608_impl_errTextForm), ("unicode/utf8.first", Rows.laid_unicode_utf8_first)]
def laidP : List (String × DataW Unit) := [("math/bits.deBruijn32tab", Rows.laid_math_bits_deBruijn32tab), ("math/bits.deBruijn64tab", Rows.laid_math_bits_deBruijn64tab), ("internal/strconv.uint64pow10", Rows.laid_internal_strconv_uint64pow10), ("unicode/utf8.acceptRanges", Rows.laid_unicode_utf8_acceptRanges), ("errors.errorType", Rows.laid_errors_errorType), ("loop.example/g00608/impl.errTextLong", Rows.laid_loop_example_g00608_impl_errTextLong), ("loop.example/g00608/impl.errTextForm", Rows.laid_loop_example_g00608_impl_errTextForm), ("unicode/utf8.first", Rows.laid_unicode_utf8_first)]
noncomputable def worldP (os : Os) : World := (typeWorld os).layVars Tryz.prog plainQ
theorem worldP_os (os : Os) : (worldP os).os = os := World.layVars_os _ _ _
theorem door_metP (os : Os) (args : Array Value) : laidMetH Tryz.prog laidP ((worldP os).forCall (fun _ _ => 0) ⟨#[], args, []⟩).memory :=
  laidMetH_of_parts (laid_over (laid := plainQ) args (by kernel_rfl) (by kernel_rfl)) (by kernel_rfl)
theorem of_laidP {W : World} (h : laidMetH Tryz.prog laidP W) : (∃ a0 a1, Er W a0 a1) ∧ Et W := by
  have h' : laidMet Tryz.prog plainQ W ∧ handlesMet Tryz.prog [("errors.errorType", Rows.laid_errors_errorType)] W := h
  obtain ⟨a1, a0, s1, s0, c1, c0, t1, t0, hv1, hv0, _, _, _, _, _, _, hne, hb1, hb0⟩ := laid_sentinels2 (laidMet.tail (laidMet.tail (laidMet.tail (laidMet.tail h'.1)))) gLongP tLongP gFormP tFormP Tryz.underlying136 rowEP Tryz.underlying304 Tryz.underlying322 rfl rfl Tryz.underlying9 cellsEP cellsSP
  exact ⟨⟨a0, a1, World.var?_cell gFormP hv0 0, World.var?_cell gLongP hv1 0, hne.symm, ⟨c0, t0, hb0⟩, c1, t1, hb1⟩, et_of_handle h'.2 (List.mem_singleton.2 rfl)⟩
theorem pow_datum : (Rows.laid_internal_strconv_uint64pow10 : DataW Unit) = Lib.tabData .u64 Lib.pow10Tab := by kernel_rfl
theorem gPow : ∃ g, Tryz.prog.globalNamed "internal/strconv.uint64pow10" = some g ∧ (Tryz.prog.globals[g]?).map (·.type) = some 294 := ⟨(Tryz.prog.globalNamed "internal/strconv.uint64pow10").getD 0, by kernel_rfl, by kernel_rfl⟩
theorem tab_of_laidP {W : World} (h : laidMetH Tryz.prog laidP W) : Tab W := by
  have h' : laidMet Tryz.prog plainQ W ∧ handlesMet Tryz.prog [("errors.errorType", Rows.laid_errors_errorType)] W := h
  have h1 := laidMet.tail (laidMet.tail h'.1)
  rw [pow_datum] at h1
  obtain ⟨g, hg, hty⟩ := gPow
  exact Lib.tabIs_of_head hg hty Tryz.underlying294 Tryz.underlying282 (by kernel_rfl) (by kernel_rfl) h1
theorem mx_of_shaped {W : World} (h : W.ShapedOpen Tryz.prog) : Mx W := cell_of_shapedOpen_int (zero := #[.int .i64 0]) h (of_decide_eq_true (by kernel_rfl)) (by kernel_rfl) rfl (by kernel_rfl) (by kernel_rfl) Tryz.underlying3
variable {H : Type} {enc : TypeId × Value → H}
/-- The wrap, the listed variables and the world's shape kept. -/
theorem handed_shaped {a : Assume} {C : Checked} {os : Os} {f : FuncId} {fn : Func} {s : ChangeSpec} {conds : List PathCond} {apart fresh handsOn again : Bool} {X : World → Array Value → Prop}
    (hX : ∀ (w w' : World) (args : Array Value), w.heap = w'.heap → X w args → X w' args)
    (own : ownKnob C.prog.godebug = none) (started : os.Started) (noInit : C.prog.inits.idxOf? f = none) (hfn : C.prog.funcs[f]? = some fn)
    (witness : ∃ (w : World) (tape : Tape) (i : Input), w.os = os ∧ (w.forCall tape i).Shaped C.prog ∧ i.vars = [] ∧ Input.okWide C.prog (w.forCall tape i) .any w.heap.size f i ∧
      ((s.pre enc C.prog fn conds apart (w.forCall tape i).memory i.args ∧ X (w.forCall tape i).memory i.args) ∧ sizedMet enc C.prog fn (OpenSpec.ofChange s) apart (w.forCall tape i).memory i.args) ∧ a.holds C.prog (lone (Frame.enter C.prog f i.args .normal) [] (w.forCall tape i)))
    (contract : ∀ (W : World) (base : Nat) (args : Array Value) (ds gs : List (DataW H)) (before : List MemPlace),
      (∀ (j : Nat) t v, fn.params[j]? = some t → args[j]? = some v → Value.okWide C.prog W .any base t v) →
      DataW.Whole enc C.prog fn.params.toList s.vars apart W args.toList ds gs before →
      W.ShapedOpen C.prog → X W args →
      Calls C.prog f args W fun e W' => ∃ v, e = .returned v ∧ s.post enc C.prog fn apart fresh handsOn again W args v W') :
    ReturnsInHanded a C os f .any (fun w args => (s.pre enc C.prog fn conds apart w args ∧ X w args) ∧ sizedMet enc C.prog fn (OpenSpec.ofChange s) apart w args) (s.post enc C.prog fn apart fresh handsOn again) := by
  refine returnsInHanded_of_calls own started noInit witness ?_
  intro w tape i _ hsh _ hok hpre hholds
  obtain ⟨_, _, _, fn', hfn', _, _, _, _, hval⟩ := hok
  have e : fn' = fn := Option.some.inj (hfn'.symm.trans hfn)
  subst e
  obtain ⟨⟨⟨ds, gs, before, hw, hc⟩, hx⟩, hz⟩ := hpre
  have hw' := DataW.Whole.of_heap (w' := w.forCall tape i) (by rfl) hw
  refine (contract (w.forCall tape i) w.heap.size i.args ds gs before hval hw' hsh (hX _ _ _ (by rfl) hx)).mono fun e W' ⟨v, he, hp⟩ => ?_
  subst he
  exact ChangeSpec.post_blind hp
end Go.Proofs.YtehahodomfbpjaaGreatDoor
