/-
  Texts of the proof, put together in their order: Sgw, Cdf, Fro, Bnt, Bnd, Lcd, Dla.
  Conditions: those of each.
-/
import Derived.Test.YtehahodomfbpjaaDoorMc8
import Derived.StillTailTactics
import Derived.Test.YtehahodomfbpjaaDoorRows
import Derived.ProofKit
import Derived.LaidMore
import Derived.OpenShut
import Derived.OpenVars
import Derived.Stop.Joined
import Derived.Stop.LaidTwo
import Derived.LaidLaws
import Derived.ShutString
import Derived.ChangeOld
import Derived.Below
/- Drawn segments. Conditions: the code can be read, and holds at most 1048576 bytes. -/
namespace Go.Proofs.YtehahodomfbpjaaDoor
set_option linter.unusedVariables false
set_option maxRecDepth 100000
open Go.RowKit

theorem owns_rg {w w' : World} {B g n : Nat} {v : Value} {xs : List Value} (h : w.ownsRow B 85 3 v n xs) (hr : Rg g (g + 1) w w') (hg : g < B) : w'.ownsRow B 85 3 v n xs := by
  refine h.kept (row := some g) ⟨hr.os, hr.tape, hr.output, hr.size, fun i hi hn => hr.block i hi (by have : i ≠ g := fun e => hn (by rw [e]); omega)⟩ ?_
  exact .inr (fun e => by have := (h.lt g e).1; omega)
theorem Rg.grown8 {lo hi : Nat} {a w w' : World} {row : Option Nat} (h : Rg lo hi a w) (hg : w.grownBy w' row) (hrow : ∀ k, row = some k → a.heap.size ≤ k) : Rg lo hi a w' :=
  ⟨hg.os.trans h.os, hg.tape.trans h.tape, hg.output.trans h.output, Nat.le_trans h.size hg.size, fun k hk hr => (hg.block k (Nat.lt_of_lt_of_le hk h.size) (fun e => by have := hrow k e.symm; omega)).trans (h.block k hk hr)⟩
theorem SrcR.grown {w w' : World} {row : Option Nat} {g n c k : Nat} {A : Option Addr} (h : SrcR w g A n c k) (hg : w.grownBy w' row) (hne : some g ≠ row) : SrcR w' g A n c k := by
  obtain ⟨a, sd, h1, h2, h3⟩ := h
  unfold Src at h3
  exact ⟨a, sd, h1, h2, h3.grown hg hne⟩
theorem SrcR.far8 {w : World} {g n c k : Nat} {A : Option Addr} (h : SrcR w g A n c k) {p : Addr} (hp : g ≠ p.block) (v : Value) : SrcR (w.setCell p v) g A n c k := by
  obtain ⟨a, sd, h1, h2, h3⟩ := h
  unfold Src at h3
  exact ⟨a, sd, h1, h2, h3.far hp v⟩
theorem chsV_app (cs : List Chg) (c : Chg) : chsV (cs ++ [c]) = chsV cs ++ chV c := by unfold chsV; rw [List.flatMap_append]; simp
/-- Right changes, of blocks below k. -/
def UpTo (cs : List Chg) (k : Nat) : Prop := chsB cs = true ∧ (∀ j, j < cs.length → (cs.getD j chZ).1 < (k : Int)) ∧ cs.length ≤ k
theorem getD_appW {cs : List Chg} {c : Chg} {j : Nat} (h : j < cs.length) : (cs ++ [c]).getD j chZ = cs.getD j chZ := by
  rw [List.getD_eq_getElem?_getD, List.getD_eq_getElem?_getD, List.getElem?_append_left h]
theorem getD_end (cs : List Chg) (c : Chg) : (cs ++ [c]).getD cs.length chZ = c := by
  rw [List.getD_eq_getElem?_getD, List.getElem?_append_right (Nat.le_refl _)]; simp
theorem chs_more {cs : List Chg} {k x y : Nat} (h : UpTo cs k) (hk : k < 8) (hx : x < 90) (hy : y < 90) : UpTo (cs ++ [((k : Int), (x : Int), (y : Int))]) (k + 1) := by
  obtain ⟨h1, h2, h3⟩ := h
  have hl : (cs ++ [((k : Int), (x : Int), (y : Int))]).length = cs.length + 1 := by simp
  refine ⟨OkTo.all (fun j hj => ?_), fun j hj => ?_, by rw [hl]; omega⟩
  · rw [hl] at hj
    by_cases hj' : j < cs.length
    · have := chsB_to h1 j hj'
      unfold okCh at this ⊢
      rw [getD_appW hj', getD_appW (by omega)]
      exact this
    · obtain rfl : j = cs.length := by omega
      unfold okCh chB inB
      rw [getD_end]
      by_cases h0 : cs.length = 0
      · simp [h0]; omega
      · have := h2 (cs.length - 1) (by omega)
        rw [getD_appW (by omega)]
        rw [List.getD_eq_getElem?_getD] at this
        simp; omega
  · rw [hl] at hj
    by_cases hj' : j < cs.length
    · rw [getD_appW hj']; have := h2 j hj'; omega
    · obtain rfl : j = cs.length := by omega
      rw [getD_end]; show (k : Int) < _; omega
def SegDr (w : World) (g gG : Nat) (A : Option Addr) (n c : Nat) (f t m : Int) (i : Value) (wr : World) : Prop :=
  ∃ (k : Nat) (v : Value) (cs : List Chg), k ≤ 8 ∧ i = .int .i64 k ∧ Box wr gG 38 #[.int .i64 f, .int .i64 t, .int .i64 m, v] ∧ wr.ownsRow (w.heap.size + 1) 85 3 v cs.length (chsV cs) ∧
    Hid (UpTo cs k) ∧ SrcR wr g A n c (9 + 9 * k) ∧ Rg g (g + 1) w wr ∧ Box wr w.heap.size 38 #[.int .i64 0, .int .i64 0, .int .i64 0, .slice none 0 0]
theorem chanceR_c (m g : Nat) (A : Option Addr) (n c k B : Nat) (ys : List Nat) (w : World) (hm : 2 ≤ m) (hm2 : m ≤ 256) (hb : SrcR w g A n c k) (h : U8s w B A n ys) (hB : B ≤ g) (hn : n ≤ 1048576) (hk : k + 3 ≤ 1048576) :
    Calls Tryd.prog 68 #[.pointer (some ⟨g, 0, none⟩), .int .i64 m] w fun e w' => ∃ b : Bool, e = .returned (.bool b) ∧ SrcR w' g A n c (k + 3) ∧ Rg g (g + 1) w w' := by
  obtain ⟨a, sd, h1, h2, h3⟩ := hb
  obtain ⟨⟨b, a', sd'⟩, HP⟩ : ∃ x, byteP ys a sd = x := ⟨_, rfl⟩
  obtain ⟨k1, k2, k3⟩ := byteP_lt h.2.1 h2 HP
  exact (chance_c m g A n c a sd B ys b a' sd' w hm hm2 h3 h hB hn (by omega) h2 HP).mono fun e w' ⟨he, hs, hr⟩ => ⟨_, he, ⟨a', sd', by omega, k3, hs⟩, hr⟩
set_option maxRecDepth 100000 in
set_option maxHeartbeats 8000000 in
theorem seg_c (g : Nat) (A : Option Addr) (n c B : Nat) (ys : List Nat) (w : World) (hb : SrcR w g A n c 0) (h : U8s w B A n ys) (hB : B ≤ g) (hn : n ≤ 1048576) :
    Calls Tryd.prog 43 #[.pointer (some ⟨g, 0, none⟩)] w fun e w' => ∃ (f t m : Nat) (cs : List Chg) (A2 : Option Addr) (c2 : Nat), e = .returned (.agg #[.int .i64 f, .int .i64 t, .int .i64 m, .slice A2 cs.length c2]) ∧ segB f t m cs = true ∧ cs.length ≤ 8 ∧ Sl w' (w.heap.size + 1) A2 85 (cs.length * 3) (chAt cs) ∧ Rg g (g + 1) w w' := by
  obtain ⟨i0, hi0, hz0', hz1, hz2⟩ := info_parts info_chg
  have hz0 := hb.lt
  have u0 := h
  have b0 := Box.new w 38 #[.int .i64 0, .int .i64 0, .int .i64 0, .slice none 0 0]
  have hx0 := (Nx.refl w).alloc (.cells #[.int .i64 0, .int .i64 0, .int .i64 0, .slice none 0 0] 38)
  have s0 := hb.nx hx0
  have r0 : Rg g (g + 1) w (w.alloc (.cells #[.int .i64 0, .int .i64 0, .int .i64 0, .slice none 0 0] 38)) := Rg.of_nx hx0
  clear hb h hx0
  go_enter Tryd.func43, Tryd.ntmps43
  go_wp2_with fail
  generalize w.alloc (.cells #[.int .i64 0, .int .i64 0, .int .i64 0, .slice none 0 0] 38) = W at *
  refine (nextR_c 9 g A n c 0 B ys _ (by omega) (by omega) s0 (u0.rg r0 hB (Nat.le_of_lt hz0)) hB hn (by omega)).mono ?_
  rintro e w1 ⟨f, rfl, hf, s1, r1⟩
  have b1 := b0.rg r1 (.inr (by omega))
  have t1 := r0.trans r1
  clear b0 r0 r1 s0
  go_wp2_with fail
  refine (nextR_c 3 g A n c (0 + 3) B ys _ (by omega) (by omega) s1 (u0.rg t1 hB (Nat.le_of_lt hz0)) hB hn (by omega)).mono ?_
  rintro e w2 ⟨d, rfl, hd, s2, r2⟩
  have b2 := b1.rg r2 (.inr (by omega))
  have t2 := t1.trans r2
  clear b1 t1 r2 s1
  go_wp2_with fail
  refine (nextR_c 200 g A n c (0 + 3 + 3) B ys _ (by omega) (by omega) s2 (u0.rg t2 hB (Nat.le_of_lt hz0)) hB hn (by omega)).mono ?_
  rintro e w3 ⟨m, rfl, hm, s3, r3⟩
  have b3 := b2.rg r3 (.inr (by omega))
  have t3 := t2.trans r3
  clear b2 t2 r3 s2
  have hw3 := b3.lt
  go_wp2
  have bg0 : Box ((w3.alloc (.cells #[] 85)).alloc (.cells #[.int .i64 f, .int .i64 ((f : Int) + 1 + (d : Int)), .int .i64 m, .slice (some ⟨w3.heap.size, 0, none⟩) 0 0] 38)) (w3.heap.size + 1) 38 #[.int .i64 f, .int .i64 ((f : Int) + 1 + (d : Int)), .int .i64 m, .slice (some ⟨w3.heap.size, 0, none⟩) 0 0] := by
    have := Box.new (w3.alloc (.cells #[] 85)) 38 #[.int .i64 f, .int .i64 ((f : Int) + 1 + (d : Int)), .int .i64 m, .slice (some ⟨w3.heap.size, 0, none⟩) 0 0]; simp only [World.size_alloc] at this; exact this
  have o0 : World.ownsRow ((w3.alloc (.cells #[] 85)).alloc (.cells #[.int .i64 f, .int .i64 ((f : Int) + 1 + (d : Int)), .int .i64 m, .slice (some ⟨w3.heap.size, 0, none⟩) 0 0] 38)) (w.heap.size + 1) 85 3 (.slice (some ⟨w3.heap.size, 0, none⟩) 0 0) 0 [] := (owns_new03 w3 (by omega)).alloc (.cells #[.int .i64 f, .int .i64 ((f : Int) + 1 + (d : Int)), .int .i64 m, .slice (some ⟨w3.heap.size, 0, none⟩) 0 0] 38)
  have hx3 := ((Nx.refl w3).alloc (.cells #[] 85)).alloc (.cells #[.int .i64 f, .int .i64 ((f : Int) + 1 + (d : Int)), .int .i64 m, .slice (some ⟨w3.heap.size, 0, none⟩) 0 0] 38)
  have s4 := s3.nx hx3
  have b4 := b3.nx hx3
  have r4 := t3.trans (Rg.of_nx hx3)
  clear s3 b3 t3 hx3
  generalize (w3.alloc (.cells #[] 85)).alloc (.cells #[.int .i64 f, .int .i64 ((f : Int) + 1 + (d : Int)), .int .i64 m, .slice (some ⟨w3.heap.size, 0, none⟩) 0 0] 38) = w4 at *
  obtain ⟨gG, HgG⟩ : ∃ x, Hid (w3.heap.size + 1 = x) := ⟨_, rfl⟩
  rw [HgG.out] at bg0 ⊢
  have hgG : w.heap.size + 1 ≤ gG := by have := HgG.out; omega
  obtain ⟨v9, Hv9⟩ : ∃ x, Hid (Value.slice (some ⟨w3.heap.size, 0, none⟩) 0 0 = x) := ⟨_, rfl⟩
  rw [Hv9.out] at bg0 o0
  obtain ⟨t9, Ht9⟩ : ∃ t : Nat, Hid ((f : Int) + 1 + (d : Int) = (t : Int)) := ⟨f + 1 + d, Lib.hid (by omega)⟩
  rw [Ht9.out] at bg0
  go_loopw [5] (fun i wr => SegDr w g gG A n c f t9 m i wr) (fun i _ => 8 - (intOf i).toNat)
  case atStart => exact ⟨0, v9, [], by omega, rfl, bg0, o0, Lib.hid ⟨rfl, fun j hj => absurd hj (by simp), by simp⟩, s4.more (by omega), r4, b4⟩
  case round =>
    obtain ⟨k, v, cs, hk, rfl, bg, o, H, s, r, br⟩ := hrel
    clear bg0 o0 s4 b4 r4
    have hcl : cs.length ≤ 8 := by have := H.out.2.2; omega
    by_cases hlt : k < 8
    · have hlt' : (k : Int) < 8 := by omega
      go_wp2_with fail
      refine (chanceR_c 4 g A n c (9 + 9 * k) B ys _ (by omega) (by omega) s (u0.rg r hB (Nat.le_of_lt hz0)) hB hn (by omega)).mono ?_
      rintro e wc ⟨ch, rfl, sc, qc⟩
      have rc := r.trans qc
      have bgc := bg.rg qc (.inr (by omega))
      have brc := br.rg qc (.inr (by omega))
      have oc := owns_rg o qc (by omega)
      clear s r bg br o qc
      cases ch with
      | false =>
        go_wp2
        go_roundw
        case rel => exact ⟨k + 1, v, cs, by omega, by go_num, bgc, oc, Lib.hid ⟨H.out.1, fun j hj => by have := H.out.2.1 j hj; omega, by have := H.out.2.2; omega⟩, sc.more (by omega), rc, brc⟩
        case measure => simp [intOf]; omega
      | true =>
        have sd := sc.nx (Nx.refl wc).drew
        have rd := rc.trans (Rg.of_nx (Nx.refl wc).drew)
        have bgd := bgc.nx (Nx.refl wc).drew
        have brd := brc.nx (Nx.refl wc).drew
        have od := owns_nx3 oc (Nx.refl wc).drew
        clear sc rc bgc brc oc
        go_wp2_with fail
        refine wp_region_plan (.t 0 (.t 2 (.t 3 (.t 5 (.b 1 (.c 4 (.c 6 (.t 7 (.c 8 (.c 9 (.t 10 (.c 11 .e))))))) 4 (.b 1 (.c 6 (.t 7 (.c 8 (.c 9 (.t 10 (.c 11 .e)))))) 6 (.t 7 (.b 1 (.c 8 (.c 9 (.t 10 (.c 11 .e)))) 8 (.c 1 (.c 9 (.t 10 (.c 11 .e)))))))))))) (fun _ => True) (by kernel_rfl) (by kernel_rfl) rfl (by kernel_rfl) (fun _ _ d _ _ h => by cases d <;> exact h) (by exact True.intro) ?_
        simp only [psOf, List.getD_cons_zero, List.getD_cons_succ]
        repeat (first | (refine HP.take (v := ?_) (by rfl) ?_ ?_; rotate_left; (· (intro w hSw; (try dsimp only at hSw); go_simp; try with_reducible rfl)); (try simp only [Act.put, List.setIfInBounds_toArray, List.set_cons_zero, List.set_cons_succ])) | (refine HP.skip (by rfl) ?_; (try simp only [Act.put, List.setIfInBounds_toArray, List.set_cons_zero, List.set_cons_succ])))
        change HP _ _ _ _ _ _ wc.drew
        generalize wc.drew = wd at *
        refine HP.both ?_ ?_
        · obtain ⟨_, _, _, c3⟩ := bgd.d4
          refine CallStep.mk (by rfl) (fun K hK => ?_)
          go_simp
          refine hK.out _ _ (by exact True.intro) ?_
          clear hK K
          try simp only [Act.put, List.setIfInBounds_toArray, List.set_cons_zero, List.set_cons_succ]
          refine HP.call ?_
          refine CallStep.mk (by rfl) (fun K hK => ?_)
          go_simp
          refine (nextR_c 90 g A n c (9 + 9 * k + 3) B ys _ (by omega) (by omega) sd (u0.rg rd hB (Nat.le_of_lt hz0)) hB hn (by omega)).mono ?_
          rintro e w5 ⟨x, rfl, hx, s5, q5⟩
          go_wp2_with fail
          refine hK.out _ _ (by exact True.intro) ?_
          clear hK K
          try simp only [Act.put, List.setIfInBounds_toArray, List.set_cons_zero, List.set_cons_succ]
          have r5 := rd.trans q5
          have bg5 := bgd.rg q5 (.inr (by omega))
          have br5 := brd.rg q5 (.inr (by omega))
          have o5 := owns_rg od q5 (by omega)
          refine HP.call ?_
          refine CallStep.mk (by rfl) (fun K hK => ?_)
          go_simp
          refine (nextR_c 90 g A n c (9 + 9 * k + 3 + 3) B ys _ (by omega) (by omega) s5 (u0.rg r5 hB (Nat.le_of_lt hz0)) hB hn (by omega)).mono ?_
          rintro e w6 ⟨y, rfl, hy, s6, q6⟩
          go_wp2_with fail
          refine hK.out _ _ (by exact True.intro) ?_
          clear hK K
          try simp only [Act.put, List.setIfInBounds_toArray, List.set_cons_zero, List.set_cons_succ]
          have r6 := r5.trans q6
          have bg6 := bg5.rg q6 (.inr (by omega))
          have br6 := br5.rg q6 (.inr (by omega))
          have o6 := owns_rg o5 q6 (by omega)
          repeat (first | (refine HP.take (v := ?_) (by rfl) ?_ ?_; rotate_left; (· (intro w hSw; (try dsimp only at hSw); go_simp; try with_reducible rfl)); (try simp only [Act.put, List.setIfInBounds_toArray, List.set_cons_zero, List.set_cons_succ])) | (refine HP.skip (by rfl) ?_; (try simp only [Act.put, List.setIfInBounds_toArray, List.set_cons_zero, List.set_cons_succ])))
          refine HP.call ?_
          refine CallStep.mk (by rfl) (fun K hK => ?_)
          go_simp
          refine hK.out _ _ (by exact True.intro) ?_
          clear hK K
          try simp only [Act.put, List.setIfInBounds_toArray, List.set_cons_zero, List.set_cons_succ]
          have bz := bg6.alloc (.cells #[.int .i64 (k : Int), .int .i64 x, .int .i64 y] 85)
          have brz := br6.alloc (.cells #[.int .i64 (k : Int), .int .i64 x, .int .i64 y] 85)
          have oz := o6.alloc (.cells #[.int .i64 (k : Int), .int .i64 x, .int .i64 y] 85)
          have sz := s6.nx ((Nx.refl w6).alloc (.cells #[.int .i64 (k : Int), .int .i64 x, .int .i64 y] 85))
          have rz := r6.trans (Rg.of_nx ((Nx.refl w6).alloc (.cells #[.int .i64 (k : Int), .int .i64 x, .int .i64 y] 85)))
          have HNW := Lib.hid (news3 w6 85 (.int .i64 (k : Int)) (.int .i64 x) (.int .i64 y))
          have HO : Hid (∀ u ∈ [Value.int .i64 (k : Int), .int .i64 x, .int .i64 y], u.oneCell' = true) := Lib.hid (fun u hu => by simp only [List.mem_cons, List.not_mem_nil, or_false] at hu; rcases hu with rfl | rfl | rfl <;> rfl)
          have hw6 := bg6.lt
          change HP _ _ _ _ _ _ (w6.alloc (.cells #[.int .i64 (k : Int), .int .i64 x, .int .i64 y] 85))
          have hzs : w6.heap.size ≤ (w6.alloc (.cells #[.int .i64 (k : Int), .int .i64 x, .int .i64 y] 85)).heap.size := by simp
          generalize w6.alloc (.cells #[.int .i64 (k : Int), .int .i64 x, .int .i64 y] 85) = wz at *
          refine HP.call ?_
          refine CallStep.mk (by rfl) (fun K hK => ?_)
          refine wp_append_own wz _ _ 36 rfl (w.heap.size + 1) 85 i0 _ 3 24 Tryd.underlying36 hi0 hz0' hz1 hz2 rfl (by omega) v cs.length _ rfl oz ⟨w6.heap.size, 0, none⟩ 1 1 [.int .i64 (k : Int), .int .i64 x, .int .i64 y] rfl rfl HNW.out HO.out (by unfold maxLen; omega) (by omega) (by omega) ?_
          intro v2 w2 hw2 hg2 _
          obtain ⟨g2, cp2, rfl, _, _⟩ := hw2.form (by omega)
          have bg2 := bz.grown hg2 (owns_ne oz bz)
          have br2 := brz.grown hg2 (owns_ne oz brz)
          have s2 := sz.grown hg2 (fun e => by have := (oz.lt g e.symm).1; omega)
          have r2 := rz.grown8 hg2 (fun k hk => by have := (oz.lt k hk).1; omega)
          refine hK.out _ _ True.intro ?_
          clear hK K
          try simp only [Act.put, List.setIfInBounds_toArray, List.set_cons_zero, List.set_cons_succ]
          repeat (first | (refine HP.take (v := ?_) (by rfl) ?_ ?_; rotate_left; (· (intro w hSw; (try dsimp only at hSw); go_simp; try with_reducible rfl)); (try simp only [Act.put, List.setIfInBounds_toArray, List.set_cons_zero, List.set_cons_succ])) | (refine HP.skip (by rfl) ?_; (try simp only [Act.put, List.setIfInBounds_toArray, List.set_cons_zero, List.set_cons_succ])))
          obtain ⟨_, _, _, d3⟩ := bg2.d4
          have f3 := bg2.frozen 3
          refine HP.call ?_
          refine CallStep.mk (by rfl) (fun K hK => ?_)
          go_simp
          refine hK.out _ _ (by exact True.intro) ?_
          clear hK K
          try simp only [Act.put, List.setIfInBounds_toArray, List.set_cons_zero, List.set_cons_succ]
          refine HP.done ?_
          have bg3 := bg2.set 3 (.slice (some ⟨g2, 0, none⟩) (cs.length + 1) cp2)
          have o3 := owns_far (u := (.slice (some ⟨g2, 0, none⟩) (cs.length + 1) cp2)) (i := 3) hw2 bg2
          have br3 := br2.far (p := ⟨gG, 3, none⟩) (by simp; omega) (.slice (some ⟨g2, 0, none⟩) (cs.length + 1) cp2)
          have s3 := (s2.more (k' := 9 + 9 * (k + 1)) (by omega)).far8 (p := ⟨gG, 3, none⟩) (by simp; omega) (.slice (some ⟨g2, 0, none⟩) (cs.length + 1) cp2)
          have r3 := r2.setNew8 (p := ⟨gG, 3, none⟩) (by simp; omega) (.slice (some ⟨g2, 0, none⟩) (cs.length + 1) cp2)
          clear d3 f3
          go_wp2
          go_roundw
          case rel =>
            refine ⟨k + 1, _, cs ++ [((k : Int), (x : Int), (y : Int))], by omega, by go_num, bg3, ?_, Lib.hid (chs_more H.out (by omega) (by omega) (by omega)), s3, r3, br3⟩
            rw [List.length_append, chsV_app]; exact o3
          case measure => simp [intOf]; omega
        · refine CallStep.mk (by rfl) (fun K hK => ?_)
          go_simp
          refine (nextR_c 90 g A n c (9 + 9 * k + 3) B ys _ (by omega) (by omega) sd (u0.rg rd hB (Nat.le_of_lt hz0)) hB hn (by omega)).mono ?_
          rintro e w5 ⟨x, rfl, hx, s5, q5⟩
          go_wp2_with fail
          refine hK.out _ _ (by exact True.intro) ?_
          clear hK K
          try simp only [Act.put, List.setIfInBounds_toArray, List.set_cons_zero, List.set_cons_succ]
          have r5 := rd.trans q5
          have bg5 := bgd.rg q5 (.inr (by omega))
          have br5 := brd.rg q5 (.inr (by omega))
          have o5 := owns_rg od q5 (by omega)
          refine HP.both ?_ ?_
          · obtain ⟨_, _, _, c3⟩ := bg5.d4
            refine CallStep.mk (by rfl) (fun K hK => ?_)
            go_simp
            refine hK.out _ _ (by exact True.intro) ?_
            clear hK K
            try simp only [Act.put, List.setIfInBounds_toArray, List.set_cons_zero, List.set_cons_succ]
            refine HP.call ?_
            refine CallStep.mk (by rfl) (fun K hK => ?_)
            go_simp
            refine (nextR_c 90 g A n c (9 + 9 * k + 3 + 3) B ys _ (by omega) (by omega) s5 (u0.rg r5 hB (Nat.le_of_lt hz0)) hB hn (by omega)).mono ?_
            rintro e w6 ⟨y, rfl, hy, s6, q6⟩
            go_wp2_with fail
            refine hK.out _ _ (by exact True.intro) ?_
            clear hK K
            try simp only [Act.put, List.setIfInBounds_toArray, List.set_cons_zero, List.set_cons_succ]
            have r6 := r5.trans q6
            have bg6 := bg5.rg q6 (.inr (by omega))
            have br6 := br5.rg q6 (.inr (by omega))
            have o6 := owns_rg o5 q6 (by omega)
            repeat (first | (refine HP.take (v := ?_) (by rfl) ?_ ?_; rotate_left; (· (intro w hSw; (try dsimp only at hSw); go_simp; try with_reducible rfl)); (try simp only [Act.put, List.setIfInBounds_toArray, List.set_cons_zero, List.set_cons_succ])) | (refine HP.skip (by rfl) ?_; (try simp only [Act.put, List.setIfInBounds_toArray, List.set_cons_zero, List.set_cons_succ])))
            refine HP.call ?_
            refine CallStep.mk (by rfl) (fun K hK => ?_)
            go_simp
            refine hK.out _ _ (by exact True.intro) ?_
            clear hK K
            try simp only [Act.put, List.setIfInBounds_toArray, List.set_cons_zero, List.set_cons_succ]
            have bz := bg6.alloc (.cells #[.int .i64 (k : Int), .int .i64 x, .int .i64 y] 85)
            have brz := br6.alloc (.cells #[.int .i64 (k : Int), .int .i64 x, .int .i64 y] 85)
            have oz := o6.alloc (.cells #[.int .i64 (k : Int), .int .i64 x, .int .i64 y] 85)
            have sz := s6.nx ((Nx.refl w6).alloc (.cells #[.int .i64 (k : Int), .int .i64 x, .int .i64 y] 85))
            have rz := r6.trans (Rg.of_nx ((Nx.refl w6).alloc (.cells #[.int .i64 (k : Int), .int .i64 x, .int .i64 y] 85)))
            have HNW := Lib.hid (news3 w6 85 (.int .i64 (k : Int)) (.int .i64 x) (.int .i64 y))
            have HO : Hid (∀ u ∈ [Value.int .i64 (k : Int), .int .i64 x, .int .i64 y], u.oneCell' = true) := Lib.hid (fun u hu => by simp only [List.mem_cons, List.not_mem_nil, or_false] at hu; rcases hu with rfl | rfl | rfl <;> rfl)
            have hw6 := bg6.lt
            change HP _ _ _ _ _ _ (w6.alloc (.cells #[.int .i64 (k : Int), .int .i64 x, .int .i64 y] 85))
            have hzs : w6.heap.size ≤ (w6.alloc (.cells #[.int .i64 (k : Int), .int .i64 x, .int .i64 y] 85)).heap.size := by simp
            generalize w6.alloc (.cells #[.int .i64 (k : Int), .int .i64 x, .int .i64 y] 85) = wz at *
            refine HP.call ?_
            refine CallStep.mk (by rfl) (fun K hK => ?_)
            refine wp_append_own wz _ _ 36 rfl (w.heap.size + 1) 85 i0 _ 3 24 Tryd.underlying36 hi0 hz0' hz1 hz2 rfl (by omega) v cs.length _ rfl oz ⟨w6.heap.size, 0, none⟩ 1 1 [.int .i64 (k : Int), .int .i64 x, .int .i64 y] rfl rfl HNW.out HO.out (by unfold maxLen; omega) (by omega) (by omega) ?_
            intro v2 w2 hw2 hg2 _
            obtain ⟨g2, cp2, rfl, _, _⟩ := hw2.form (by omega)
            have bg2 := bz.grown hg2 (owns_ne oz bz)
            have br2 := brz.grown hg2 (owns_ne oz brz)
            have s2 := sz.grown hg2 (fun e => by have := (oz.lt g e.symm).1; omega)
            have r2 := rz.grown8 hg2 (fun k hk => by have := (oz.lt k hk).1; omega)
            refine hK.out _ _ True.intro ?_
            clear hK K
            try simp only [Act.put, List.setIfInBounds_toArray, List.set_cons_zero, List.set_cons_succ]
            repeat (first | (refine HP.take (v := ?_) (by rfl) ?_ ?_; rotate_left; (· (intro w hSw; (try dsimp only at hSw); go_simp; try with_reducible rfl)); (try simp only [Act.put, List.setIfInBounds_toArray, List.set_cons_zero, List.set_cons_succ])) | (refine HP.skip (by rfl) ?_; (try simp only [Act.put, List.setIfInBounds_toArray, List.set_cons_zero, List.set_cons_succ])))
            obtain ⟨_, _, _, d3⟩ := bg2.d4
            have f3 := bg2.frozen 3
            refine HP.call ?_
            refine CallStep.mk (by rfl) (fun K hK => ?_)
            go_simp
            refine hK.out _ _ (by exact True.intro) ?_
            clear hK K
            try simp only [Act.put, List.setIfInBounds_toArray, List.set_cons_zero, List.set_cons_succ]
            refine HP.done ?_
            have bg3 := bg2.set 3 (.slice (some ⟨g2, 0, none⟩) (cs.length + 1) cp2)
            have o3 := owns_far (u := (.slice (some ⟨g2, 0, none⟩) (cs.length + 1) cp2)) (i := 3) hw2 bg2
            have br3 := br2.far (p := ⟨gG, 3, none⟩) (by simp; omega) (.slice (some ⟨g2, 0, none⟩) (cs.length + 1) cp2)
            have s3 := (s2.more (k' := 9 + 9 * (k + 1)) (by omega)).far8 (p := ⟨gG, 3, none⟩) (by simp; omega) (.slice (some ⟨g2, 0, none⟩) (cs.length + 1) cp2)
            have r3 := r2.setNew8 (p := ⟨gG, 3, none⟩) (by simp; omega) (.slice (some ⟨g2, 0, none⟩) (cs.length + 1) cp2)
            clear d3 f3
            go_wp2
            go_roundw
            case rel =>
              refine ⟨k + 1, _, cs ++ [((k : Int), (x : Int), (y : Int))], by omega, by go_num, bg3, ?_, Lib.hid (chs_more H.out (by omega) (by omega) (by omega)), s3, r3, br3⟩
              rw [List.length_append, chsV_app]; exact o3
            case measure => simp [intOf]; omega
          · refine CallStep.mk (by rfl) (fun K hK => ?_)
            go_simp
            refine (nextR_c 90 g A n c (9 + 9 * k + 3 + 3) B ys _ (by omega) (by omega) s5 (u0.rg r5 hB (Nat.le_of_lt hz0)) hB hn (by omega)).mono ?_
            rintro e w6 ⟨y, rfl, hy, s6, q6⟩
            go_wp2_with fail
            refine hK.out _ _ (by exact True.intro) ?_
            clear hK K
            try simp only [Act.put, List.setIfInBounds_toArray, List.set_cons_zero, List.set_cons_succ]
            have r6 := r5.trans q6
            have bg6 := bg5.rg q6 (.inr (by omega))
            have br6 := br5.rg q6 (.inr (by omega))
            have o6 := owns_rg o5 q6 (by omega)
            repeat (first | (refine HP.take (v := ?_) (by rfl) ?_ ?_; rotate_left; (· (intro w hSw; (try dsimp only at hSw); go_simp; try with_reducible rfl)); (try simp only [Act.put, List.setIfInBounds_toArray, List.set_cons_zero, List.set_cons_succ])) | (refine HP.skip (by rfl) ?_; (try simp only [Act.put, List.setIfInBounds_toArray, List.set_cons_zero, List.set_cons_succ])))
            refine HP.both ?_ ?_
            · obtain ⟨_, _, _, c3⟩ := bg6.d4
              refine CallStep.mk (by rfl) (fun K hK => ?_)
              go_simp
              refine hK.out _ _ (by exact True.intro) ?_
              clear hK K
              try simp only [Act.put, List.setIfInBounds_toArray, List.set_cons_zero, List.set_cons_succ]
              refine HP.call ?_
              refine CallStep.mk (by rfl) (fun K hK => ?_)
              go_simp
              refine hK.out _ _ (by exact True.intro) ?_
              clear hK K
              try simp only [Act.put, List.setIfInBounds_toArray, List.set_cons_zero, List.set_cons_succ]
              have bz := bg6.alloc (.cells #[.int .i64 (k : Int), .int .i64 x, .int .i64 y] 85)
              have brz := br6.alloc (.cells #[.int .i64 (k : Int), .int .i64 x, .int .i64 y] 85)
              have oz := o6.alloc (.cells #[.int .i64 (k : Int), .int .i64 x, .int .i64 y] 85)
              have sz := s6.nx ((Nx.refl w6).alloc (.cells #[.int .i64 (k : Int), .int .i64 x, .int .i64 y] 85))
              have rz := r6.trans (Rg.of_nx ((Nx.refl w6).alloc (.cells #[.int .i64 (k : Int), .int .i64 x, .int .i64 y] 85)))
              have HNW := Lib.hid (news3 w6 85 (.int .i64 (k : Int)) (.int .i64 x) (.int .i64 y))
              have HO : Hid (∀ u ∈ [Value.int .i64 (k : Int), .int .i64 x, .int .i64 y], u.oneCell' = true) := Lib.hid (fun u hu => by simp only [List.mem_cons, List.not_mem_nil, or_false] at hu; rcases hu with rfl | rfl | rfl <;> rfl)
              have hw6 := bg6.lt
              change HP _ _ _ _ _ _ (w6.alloc (.cells #[.int .i64 (k : Int), .int .i64 x, .int .i64 y] 85))
              have hzs : w6.heap.size ≤ (w6.alloc (.cells #[.int .i64 (k : Int), .int .i64 x, .int .i64 y] 85)).heap.size := by simp
              generalize w6.alloc (.cells #[.int .i64 (k : Int), .int .i64 x, .int .i64 y] 85) = wz at *
              refine HP.call ?_
              refine CallStep.mk (by rfl) (fun K hK => ?_)
              refine wp_append_own wz _ _ 36 rfl (w.heap.size + 1) 85 i0 _ 3 24 Tryd.underlying36 hi0 hz0' hz1 hz2 rfl (by omega) v cs.length _ rfl oz ⟨w6.heap.size, 0, none⟩ 1 1 [.int .i64 (k : Int), .int .i64 x, .int .i64 y] rfl rfl HNW.out HO.out (by unfold maxLen; omega) (by omega) (by omega) ?_
              intro v2 w2 hw2 hg2 _
              obtain ⟨g2, cp2, rfl, _, _⟩ := hw2.form (by omega)
              have bg2 := bz.grown hg2 (owns_ne oz bz)
              have br2 := brz.grown hg2 (owns_ne oz brz)
              have s2 := sz.grown hg2 (fun e => by have := (oz.lt g e.symm).1; omega)
              have r2 := rz.grown8 hg2 (fun k hk => by have := (oz.lt k hk).1; omega)
              refine hK.out _ _ True.intro ?_
              clear hK K
              try simp only [Act.put, List.setIfInBounds_toArray, List.set_cons_zero, List.set_cons_succ]
              repeat (first | (refine HP.take (v := ?_) (by rfl) ?_ ?_; rotate_left; (· (intro w hSw; (try dsimp only at hSw); go_simp; try with_reducible rfl)); (try simp only [Act.put, List.setIfInBounds_toArray, List.set_cons_zero, List.set_cons_succ])) | (refine HP.skip (by rfl) ?_; (try simp only [Act.put, List.setIfInBounds_toArray, List.set_cons_zero, List.set_cons_succ])))
              obtain ⟨_, _, _, d3⟩ := bg2.d4
              have f3 := bg2.frozen 3
              refine HP.call ?_
              refine CallStep.mk (by rfl) (fun K hK => ?_)
              go_simp
              refine hK.out _ _ (by exact True.intro) ?_
              clear hK K
              try simp only [Act.put, List.setIfInBounds_toArray, List.set_cons_zero, List.set_cons_succ]
              refine HP.done ?_
              have bg3 := bg2.set 3 (.slice (some ⟨g2, 0, none⟩) (cs.length + 1) cp2)
              have o3 := owns_far (u := (.slice (some ⟨g2, 0, none⟩) (cs.length + 1) cp2)) (i := 3) hw2 bg2
              have br3 := br2.far (p := ⟨gG, 3, none⟩) (by simp; omega) (.slice (some ⟨g2, 0, none⟩) (cs.length + 1) cp2)
              have s3 := (s2.more (k' := 9 + 9 * (k + 1)) (by omega)).far8 (p := ⟨gG, 3, none⟩) (by simp; omega) (.slice (some ⟨g2, 0, none⟩) (cs.length + 1) cp2)
              have r3 := r2.setNew8 (p := ⟨gG, 3, none⟩) (by simp; omega) (.slice (some ⟨g2, 0, none⟩) (cs.length + 1) cp2)
              clear d3 f3
              go_wp2
              go_roundw
              case rel =>
                refine ⟨k + 1, _, cs ++ [((k : Int), (x : Int), (y : Int))], by omega, by go_num, bg3, ?_, Lib.hid (chs_more H.out (by omega) (by omega) (by omega)), s3, r3, br3⟩
                rw [List.length_append, chsV_app]; exact o3
              case measure => simp [intOf]; omega
            · refine CallStep.mk (by rfl) (fun K hK => ?_)
              go_simp
              refine hK.out _ _ (by exact True.intro) ?_
              clear hK K
              try simp only [Act.put, List.setIfInBounds_toArray, List.set_cons_zero, List.set_cons_succ]
              refine HP.call ?_
              have hlt6 := bg6.lt
              obtain ⟨_, _, _, c3⟩ := bg6.d4
              refine CallStep.mk (by rfl) (fun K hK => ?_)
              go_simp
              refine hK.out _ _ (by exact True.intro) ?_
              clear hK K
              try simp only [Act.put, List.setIfInBounds_toArray, List.set_cons_zero, List.set_cons_succ]
              have bz := bg6.alloc (.cells #[.int .i64 (k : Int), .int .i64 x, .int .i64 y] 85)
              have brz := br6.alloc (.cells #[.int .i64 (k : Int), .int .i64 x, .int .i64 y] 85)
              have oz := o6.alloc (.cells #[.int .i64 (k : Int), .int .i64 x, .int .i64 y] 85)
              have sz := s6.nx ((Nx.refl w6).alloc (.cells #[.int .i64 (k : Int), .int .i64 x, .int .i64 y] 85))
              have rz := r6.trans (Rg.of_nx ((Nx.refl w6).alloc (.cells #[.int .i64 (k : Int), .int .i64 x, .int .i64 y] 85)))
              have HNW := Lib.hid (news3 w6 85 (.int .i64 (k : Int)) (.int .i64 x) (.int .i64 y))
              have HO : Hid (∀ u ∈ [Value.int .i64 (k : Int), .int .i64 x, .int .i64 y], u.oneCell' = true) := Lib.hid (fun u hu => by simp only [List.mem_cons, List.not_mem_nil, or_false] at hu; rcases hu with rfl | rfl | rfl <;> rfl)
              have hw6 := bg6.lt
              change HP _ _ _ _ _ _ (w6.alloc (.cells #[.int .i64 (k : Int), .int .i64 x, .int .i64 y] 85))
              have hzs : w6.heap.size ≤ (w6.alloc (.cells #[.int .i64 (k : Int), .int .i64 x, .int .i64 y] 85)).heap.size := by simp
              generalize w6.alloc (.cells #[.int .i64 (k : Int), .int .i64 x, .int .i64 y] 85) = wz at *
              refine HP.call ?_
              refine CallStep.mk (by rfl) (fun K hK => ?_)
              refine wp_append_own wz _ _ 36 rfl (w.heap.size + 1) 85 i0 _ 3 24 Tryd.underlying36 hi0 hz0' hz1 hz2 rfl (by omega) v cs.length _ rfl oz ⟨w6.heap.size, 0, none⟩ 1 1 [.int .i64 (k : Int), .int .i64 x, .int .i64 y] rfl rfl HNW.out HO.out (by unfold maxLen; omega) (by omega) (by omega) ?_
              intro v2 w2 hw2 hg2 _
              obtain ⟨g2, cp2, rfl, _, _⟩ := hw2.form (by omega)
              have bg2 := bz.grown hg2 (owns_ne oz bz)
              have br2 := brz.grown hg2 (owns_ne oz brz)
              have s2 := sz.grown hg2 (fun e => by have := (oz.lt g e.symm).1; omega)
              have r2 := rz.grown8 hg2 (fun k hk => by have := (oz.lt k hk).1; omega)
              refine hK.out _ _ True.intro ?_
              clear hK K
              try simp only [Act.put, List.setIfInBounds_toArray, List.set_cons_zero, List.set_cons_succ]
              repeat (first | (refine HP.take (v := ?_) (by rfl) ?_ ?_; rotate_left; (· (intro w hSw; (try dsimp only at hSw); go_simp; try with_reducible rfl)); (try simp only [Act.put, List.setIfInBounds_toArray, List.set_cons_zero, List.set_cons_succ])) | (refine HP.skip (by rfl) ?_; (try simp only [Act.put, List.setIfInBounds_toArray, List.set_cons_zero, List.set_cons_succ])))
              obtain ⟨_, _, _, d3⟩ := bg2.d4
              have f3 := bg2.frozen 3
              refine HP.call ?_
              refine CallStep.mk (by rfl) (fun K hK => ?_)
              go_simp
              refine hK.out _ _ (by exact True.intro) ?_
              clear hK K
              try simp only [Act.put, List.setIfInBounds_toArray, List.set_cons_zero, List.set_cons_succ]
              refine HP.done ?_
              have bg3 := bg2.set 3 (.slice (some ⟨g2, 0, none⟩) (cs.length + 1) cp2)
              have o3 := owns_far (u := (.slice (some ⟨g2, 0, none⟩) (cs.length + 1) cp2)) (i := 3) hw2 bg2
              have br3 := br2.far (p := ⟨gG, 3, none⟩) (by simp; omega) (.slice (some ⟨g2, 0, none⟩) (cs.length + 1) cp2)
              have s3 := (s2.more (k' := 9 + 9 * (k + 1)) (by omega)).far8 (p := ⟨gG, 3, none⟩) (by simp; omega) (.slice (some ⟨g2, 0, none⟩) (cs.length + 1) cp2)
              have r3 := r2.setNew8 (p := ⟨gG, 3, none⟩) (by simp; omega) (.slice (some ⟨g2, 0, none⟩) (cs.length + 1) cp2)
              clear d3 f3
              go_wp2
              go_roundw
              case rel =>
                refine ⟨k + 1, _, cs ++ [((k : Int), (x : Int), (y : Int))], by omega, by go_num, bg3, ?_, Lib.hid (chs_more H.out (by omega) (by omega) (by omega)), s3, r3, br3⟩
                rw [List.length_append, chsV_app]; exact o3
              case measure => simp [intOf]; omega
    · obtain rfl : k = 8 := by omega
      obtain ⟨A2, c2, rfl, hS⟩ := owns_slC o
      obtain ⟨x0, x1, x2, x3⟩ := bg.d4
      obtain ⟨c0, c1, c2', c3⟩ := br.d4
      have f0 := br.frozen 0
      have f1 := br.frozen 1
      have f2 := br.frozen 2
      have f3 := br.frozen 3
      have HB := Lib.hid (show segB f t9 m cs = true by unfold segB inB; rw [H.out.1]; have := Ht9.out; simp; omega)
      go_wp2
      have q := put4_box br (.int .i64 f) (.int .i64 t9) (.int .i64 m) (.slice A2 cs.length c2)
      have hsf := hS.put4 (g := w.heap.size) (by omega) (.int .i64 f) (.int .i64 t9) (.int .i64 m) (.slice A2 cs.length c2)
      have hnf := (((r.setNew8 (p := ⟨w.heap.size, 0, none⟩) (Nat.le_refl _) (.int .i64 f)).setNew8 (p := ⟨w.heap.size, 1, none⟩) (Nat.le_refl _) (.int .i64 t9)).setNew8 (p := ⟨w.heap.size, 2, none⟩) (Nat.le_refl _) (.int .i64 m)).setNew8 (p := ⟨w.heap.size, 3, none⟩) (Nat.le_refl _) (.slice A2 cs.length c2)
      change Rg _ _ _ (put4 wr w.heap.size (.int .i64 f) (.int .i64 t9) (.int .i64 m) (.slice A2 cs.length c2)) at hnf
      change bodyPost _ _ _ _ _ (put4 wr w.heap.size (.int .i64 f) (.int .i64 t9) (.int .i64 m) (.slice A2 cs.length c2))
      generalize put4 wr w.heap.size (.int .i64 f) (.int .i64 t9) (.int .i64 m) (.slice A2 cs.length c2) = Wf at *
      obtain ⟨g0, g1, g2, g3⟩ := q.d4
      exact bodyPost_ret (v := .agg #[.int .i64 f, .int .i64 t9, .int .i64 m, .slice A2 cs.length c2]) (by simp [results, Tryd.results43, go_sem, g0, g1, g2, g3]) rfl ⟨f, t9, m, cs, A2, c2, rfl, HB.out, hcl, hsf, hnf⟩
set_option maxRecDepth 100000 in
set_option maxHeartbeats 1000000 in
theorem segDrawn_c (A : Option Addr) (n c : Nat) (ys : List Nat) (w : World) (h : U8s w w.heap.size A n ys) (hn : n ≤ 1048576) :
    Calls Tryd.prog 13 #[.slice A n c] w fun e w' => ∃ (f t m : Nat) (cs : List Chg) (A2 : Option Addr) (c2 : Nat), e = .returned (.agg #[.int .i64 f, .int .i64 t, .int .i64 m, .slice A2 cs.length c2]) ∧ segB f t m cs = true ∧ cs.length ≤ 8 ∧ Sl w' w.heap.size A2 85 (cs.length * 3) (chAt cs) ∧ Nx w w' := by
  go_enter Tryd.func13, Tryd.ntmps13
  go_wp2_with fail
  have b0 := Box.new w 38 #[.int .i64 0, .int .i64 0, .int .i64 0, .slice none 0 0]
  have hx0 := (Nx.refl w).alloc (.cells #[.int .i64 0, .int .i64 0, .int .i64 0, .slice none 0 0] 38)
  have u0 := h.below hx0 (Nat.le_refl _)
  generalize w.alloc (.cells #[.int .i64 0, .int .i64 0, .int .i64 0, .slice none 0 0] 38) = W at *
  have hz := b0.lt
  refine (l00Source_c A n c _ hn).mono ?_
  rintro e w1 ⟨rfl, s1, hnx1⟩
  have u1 := u0.below hnx1 (by omega)
  have hz1 := hnx1.size
  go_wp2_with fail
  refine (seg_c W.heap.size A n c w.heap.size ys _ ⟨0, n % 1000, by omega, by omega, s1⟩ u1 (by omega) hn).mono ?_
  rintro e w2 ⟨f, t, m, cs, A2, c2, rfl, hf, hl, hS, r2⟩
  have HF := Lib.hid hf
  clear hf
  have b2 := (b0.nx hnx1).rg r2 (.inl hz)
  have hx2 := Rg.nx_of (hx0.trans hnx1) r2 (by omega)
  have hgl : w.heap.size < w1.heap.size + 1 := by omega
  clear u0 u1 b0 hx0 hnx1 r2 s1
  obtain ⟨c0, c1, c2', c3⟩ := b2.d4
  have f0 := b2.frozen 0
  have f1 := b2.frozen 1
  have f2 := b2.frozen 2
  have f3 := b2.frozen 3
  go_wp2
  have q := put4_box b2 (.int .i64 f) (.int .i64 t) (.int .i64 m) (.slice A2 cs.length c2)
  have hnf := put4_nx hx2 (Nat.le_refl w.heap.size) (.int .i64 f) (.int .i64 t) (.int .i64 m) (.slice A2 cs.length c2)
  have hsf := (hS.put4 hgl (.int .i64 f) (.int .i64 t) (.int .i64 m) (.slice A2 cs.length c2)).low (show w.heap.size ≤ _ by omega)
  change bodyPost _ _ _ _ _ (put4 w2 w.heap.size (.int .i64 f) (.int .i64 t) (.int .i64 m) (.slice A2 cs.length c2))
  generalize put4 w2 w.heap.size (.int .i64 f) (.int .i64 t) (.int .i64 m) (.slice A2 cs.length c2) = Wf at *
  obtain ⟨g0, g1, g2, g3⟩ := q.d4
  exact bodyPost_ret (v := .agg #[.int .i64 f, .int .i64 t, .int .i64 m, .slice A2 cs.length c2]) (by simp [results, Tryd.results13, go_sem, g0, g1, g2, g3]) rfl ⟨f, t, m, cs, A2, c2, rfl, HF.out, hl, hsf, hnf⟩
end Go.Proofs.YtehahodomfbpjaaDoor
/- Plain facts for FnCodec: the text of a right frame is read back. Conditions: none. -/
namespace Go.Proofs.YtehahodomfbpjaaDoor
set_option linter.unusedVariables false
set_option maxRecDepth 100000
open Go.RowKit

theorem frameS_yes {q0 q1 q2 q3 : Nat} (h : frameB q0 q1 q2 q3 = true) : frameS q0 q1 q2 q3 = sealS (numsS [q0, q1, q2, q3]) := by
  unfold frameS; rw [if_pos h]; rfl
theorem all6_four {q0 q1 q2 q3 : Nat} (h : frameB q0 q1 q2 q3 = true) : All6 [q0, q1, q2, q3] := by
  obtain ⟨h1, h2, h3, h4⟩ := frameB_yes h
  intro k hk
  match k, hk with
  | 0, _ => show q0 ≤ _; omega
  | 1, _ => show q1 ≤ _; omega
  | 2, _ => show q2 ≤ _; omega
  | 3, _ => show q3 ≤ _; omega
  | k + 4, hk => simp at hk; omega
/-- A right frame's text is read back. -/
theorem rdF_back {q0 q1 q2 q3 : Nat} (h : frameB q0 q1 q2 q3 = true) : rdF (frameS q0 q1 q2 q3) = some (q0, q1, q2, q3) := by
  rw [frameS_yes h, rdF_four (rdN_seal _ (all6_four h)), if_pos h]
theorem frameS_size {q0 q1 q2 q3 : Nat} (h : frameB q0 q1 q2 q3 = true) : (frameS q0 q1 q2 q3).size = 27 := by
  rw [frameS_yes h, sealS_size, numsS_size]; rfl
theorem frA_back {q0 q1 q2 q3 : Nat} (h : frameB q0 q1 q2 q3 = true) : frA (frameS q0 q1 q2 q3) = (q0, q1, q2, q3) ∧ frC (frameS q0 q1 q2 q3) = 0 := by
  have hs := frameS_size h
  unfold frA frC
  rw [if_pos (by omega), if_pos (by omega), rdF_back h]
  exact ⟨rfl, rfl⟩
/-- A text whose numbers cannot be told is of the wrong form. -/
theorem rdN_odd {t : ByteArray} (h : (t.size - 3) % 6 ≠ 0) : rdN t = none := by
  cases ho : opensB t with
  | false => exact rdN_no ho
  | true =>
    rw [rdN_yes ho]
    refine numsO_no (.inl ?_)
    rw [bodyOf_list, List.length_take, ← ba_size, Nat.min_eq_left (by omega)]
    exact h
theorem frC_odd {t : ByteArray} (h : (t.size - 3) % 6 ≠ 0) (hl : t.size ≤ 65536) : frC t = 3 := by
  unfold frC
  rw [if_pos hl, rdF_none (rdN_odd h)]; rfl
/-- A body with the sum of another opens if and only if the sums are the same. -/
theorem opens_other (a b : ByteArray) : opensB (a ++ ⟨(sumD b).toArray⟩) = decide (sumS a = sumS b) := by
  have hl : (a ++ ⟨(sumD b).toArray⟩ : ByteArray).data.toList = a.data.toList ++ sumD b := by rw [ba_app]
  have hsz : (a ++ ⟨(sumD b).toArray⟩ : ByteArray).size = a.size + 3 := by rw [ba_size, hl, List.length_append, sumD_len, ← ba_size]
  have hbo : bodyOf (a ++ ⟨(sumD b).toArray⟩) = a := by
    apply ba_ext
    rw [bodyOf_list, hsz, hl, show a.size + 3 - 3 = a.size by omega]
    exact List.take_left' (ba_size a).symm
  rw [opensB_of (by omega)]
  unfold sealB
  rw [hbo, Bool.eq_iff_iff, beq_iff_eq, decide_eq_true_eq]
  have h1 := sumL_bd a.data.toList
  have h2 := sumL_bd b.data.toList
  constructor
  · intro h
    have h3 : sealS a = a ++ ⟨(sumD b).toArray⟩ := ba_ext (by rw [← ByteArray.toList_eq, ← ByteArray.toList_eq]; exact h)
    have h4 := congrArg (fun x : ByteArray => x.data.toList) h3
    simp only [sealS_list, hl] at h4
    have h5 := List.append_cancel_left h4
    unfold sumD at h5
    have h6 := pad_inj (k := 3) (by unfold sumS; omega) (by unfold sumS; omega) h5
    unfold sumS at h6 ⊢
    omega
  · intro h
    have h3 : sumD a = sumD b := by unfold sumD; rw [h]
    unfold sealS
    rw [h3]
theorem flat_get : ∀ (cs : List Chg) (j r : Nat), j < cs.length → r < 3 → (cs.flatMap chN).getD (3 * j + r) 0 = (chN (cs.getD j chZ)).getD r 0
  | [], j, r, h, _ => by simp at h
  | c :: cs, 0, r, h, hr => by
    show (chN c ++ cs.flatMap chN).getD (3 * 0 + r) 0 = (chN c).getD r 0
    rw [List.getD_eq_getElem?_getD, List.getD_eq_getElem?_getD, List.getElem?_append_left (by show _ < 3; omega), show 3 * 0 + r = r by omega]
  | c :: cs, j + 1, r, h, hr => by
    show (chN c ++ cs.flatMap chN).getD (3 * (j + 1) + r) 0 = (chN (cs.getD j chZ)).getD r 0
    rw [← flat_get cs j r (by simpa using h) hr, List.getD_eq_getElem?_getD, List.getD_eq_getElem?_getD, List.getElem?_append_right (by show 3 ≤ _; omega)]
    have : (chN c).length = 3 := rfl
    rw [this, show 3 * (j + 1) + r - 3 = 3 * j + r by omega]
theorem segN_get (f t m : Int) (cs : List Chg) (j r : Nat) (hj : j < cs.length) (hr : r < 3) : (segN f t m cs).getD (3 + 3 * j + r) 0 = (chN (cs.getD j chZ)).getD r 0 := by
  rw [← flat_get cs j r hj hr]
  unfold segN
  rw [List.getD_eq_getElem?_getD, List.getD_eq_getElem?_getD, List.getElem?_append_right (by show 3 ≤ _; omega)]
  have : [f.toNat, t.toNat, m.toNat].length = 3 := rfl
  rw [this, show 3 + 3 * j + r - 3 = 3 * j + r by omega]
theorem sgOf_segN {f t m : Nat} {cs : List Chg} (h : segB f t m cs = true) : sgOf (segN f t m cs) = (f, t, m, cs) := by
  obtain ⟨_, _, _, _, hc⟩ := segB_yes h
  have hl := segN_len f t m cs
  unfold sgOf
  rw [hl, show (3 + 3 * cs.length) / 3 - 1 = cs.length by omega]
  refine Prod.ext (by rfl) (Prod.ext (by rfl) (Prod.ext (by rfl) ?_))
  show chOf (segN f t m cs) cs.length = cs
  unfold chOf
  apply List.ext_getElem (by simp)
  intro j h1 h2
  rw [List.getElem_map, List.getElem_range]
  have g0 := segN_get f t m cs j 0 h2 (by omega)
  have g1 := segN_get f t m cs j 1 h2 (by omega)
  have g2 := segN_get f t m cs j 2 h2 (by omega)
  have hk := chsB_to hc j h2
  have hd : cs.getD j chZ = cs[j] := by rw [List.getD_eq_getElem?_getD, List.getElem?_eq_getElem h2]; rfl
  unfold chN3
  rw [show 3 + 3 * j = 3 + 3 * j + 0 by omega, g0, show 3 + 3 * j + 0 + 1 = 3 + 3 * j + 1 by omega, show 3 + 3 * j + 0 + 2 = 3 + 3 * j + 2 by omega, g1, g2]
  unfold okCh chB inB at hk
  rw [hd] at hk ⊢
  generalize cs[j] = x at *
  obtain ⟨x0, x1, x2⟩ := x
  simp at hk
  show (((x0.toNat : Nat) : Int), ((x1.toNat : Nat) : Int), ((x2.toNat : Nat) : Int)) = (x0, x1, x2)
  rw [Int.toNat_of_nonneg (by omega), Int.toNat_of_nonneg (by omega), Int.toNat_of_nonneg (by omega)]
/-- A right segment's text is read back. -/
theorem rdG_back {f t m : Nat} {cs : List Chg} (h : segB f t m cs = true) : rdG (segS f t m cs) = some (f, t, m, cs) := by
  have hs := sgOf_segN h
  have hl := segN_len f t m cs
  have hq : segS f t m cs = sealS (numsS (segN f t m cs)) := by unfold segS; rw [if_pos h]
  rw [hq, rdG_yes (rdN_seal _ (segN_all h)) (okLen_yes (by omega) (by omega)) (by unfold g4B; rw [hs]; exact h), hs]
theorem sgA_back {f t m : Nat} {cs : List Chg} (h : segB f t m cs = true) (hl : cs.length ≤ 8) : sgA (segS f t m cs) = (f, t, m, cs) ∧ sgC (segS f t m cs) = 0 := by
  refine sgA_some ?_ (rdG_back h)
  have hq : segS f t m cs = sealS (numsS (segN f t m cs)) := by unfold segS; rw [if_pos h]
  rw [hq, sealS_size, numsS_size, segN_len]; omega
end Go.Proofs.YtehahodomfbpjaaDoor
/- Contract of the laws' frameOf. Conditions: a text of 27 bytes, 24 of them digits. -/
namespace Go.Proofs.YtehahodomfbpjaaDoor
set_option linter.unusedVariables false
set_option maxRecDepth 100000
open Go.RowKit
/-- The number q of a text, as far as byte i. -/
def vaT (t : ByteArray) (i q : Nat) : Nat := valL ((t.data.toList.drop (6 * q)).take (min (i - 6 * q) 6))
theorem vaT_same {t : ByteArray} {i q : Nat} (h : i / 6 ≠ q) : vaT t (i + 1) q = vaT t i q := by
  unfold vaT
  rw [show min (i + 1 - 6 * q) 6 = min (i - 6 * q) 6 by omega]
theorem vaT_next {t : ByteArray} {i q : Nat} (h : i / 6 = q) (hi : i < t.size) : vaT t (i + 1) q = 10 * vaT t i q + (t[i].toNat - 48) := by
  unfold vaT
  rw [show min (i + 1 - 6 * q) 6 = (i - 6 * q) + 1 by omega, show min (i - 6 * q) 6 = i - 6 * q by omega]
  have := valFrom_succ t (6 * q) (i - 6 * q) (by omega)
  unfold valFrom at this
  rw [this]
  congr 3
  · congr 1; omega
theorem vaT_bd {t : ByteArray} {i q : Nat} (hd : digL (t.data.toList.take 24) = true) (hq : q < 4) : vaT t i q < 1000000 := by
  unfold vaT
  have h1 : digL ((t.data.toList.drop (6 * q)).take (min (i - 6 * q) 6)) = true := by
    unfold digL at hd ⊢
    rw [List.all_eq_true] at hd ⊢
    intro x hx
    refine hd x ?_
    obtain ⟨j, hj, e⟩ := List.mem_iff_getElem.1 hx
    rw [List.getElem_take, List.getElem_drop] at e
    rw [List.length_take, List.length_drop] at hj
    rw [← e]
    have : 6 * q + j < (t.data.toList.take 24).length := by rw [List.length_take]; omega
    have e2 : (t.data.toList.take 24)[6 * q + j] = t.data.toList[6 * q + j]'(by rw [List.length_take] at this; omega) := List.getElem_take
    rw [← e2]
    exact List.getElem_mem _
  have h2 := valL_bd _ rfl h1
  refine Nat.lt_of_lt_of_le h2 (Nat.le_trans (Nat.pow_le_pow_right (by decide) (show _ ≤ 6 by rw [List.length_take]; omega)) (by decide))
def vaV (t : ByteArray) (i : Nat) : Array Value := #[.int .i64 (vaT t i 0 : Int), .int .i64 (vaT t i 1 : Int), .int .i64 (vaT t i 2 : Int), .int .i64 (vaT t i 3 : Int)]
theorem vaV_next {t : ByteArray} {i : Nat} (hi : i < 24) (v : Nat) (hv : vaT t (i + 1) (i / 6) = v) : (vaV t i).setIfInBounds (i / 6) (.int .i64 (v : Int)) = vaV t (i + 1) := by
  have hq : i / 6 < 4 := by omega
  unfold vaV
  rcases (show i / 6 = 0 ∨ i / 6 = 1 ∨ i / 6 = 2 ∨ i / 6 = 3 by omega) with h | h | h | h
  all_goals rw [h] at hv ⊢; rw [hv.symm]
  · rw [vaT_same (q := 1) (by omega), vaT_same (q := 2) (by omega), vaT_same (q := 3) (by omega)]; rfl
  · rw [vaT_same (q := 0) (by omega), vaT_same (q := 2) (by omega), vaT_same (q := 3) (by omega)]; rfl
  · rw [vaT_same (q := 0) (by omega), vaT_same (q := 1) (by omega), vaT_same (q := 3) (by omega)]; rfl
  · rw [vaT_same (q := 0) (by omega), vaT_same (q := 1) (by omega), vaT_same (q := 2) (by omega)]; rfl
theorem vaV_get {t : ByteArray} {i q : Nat} (hq : q < 4) : (vaV t i)[q]? = some (.int .i64 (vaT t i q : Int)) := by
  unfold vaV
  match q, hq with
  | 0, _ => rfl
  | 1, _ => rfl
  | 2, _ => rfl
  | 3, _ => rfl
set_option maxRecDepth 100000 in
set_option maxHeartbeats 4000000 in
theorem frameOf_c (t : ByteArray) (w : World) (ht : t.size = 27) (hd : digL (t.data.toList.take 24) = true) :
    Calls Tryd.prog 27 #[.string t] w fun e w' => e = .returned (vF (vaT t 24 0, vaT t 24 1, vaT t 24 2, vaT t 24 3)) ∧ Nx w w' := by
  have HD := Lib.hid hd
  have hts : 24 < t.size := by omega
  clear hd ht
  have b0 := (Box.new w 41 #[.int .i64 0, .int .i64 0, .int .i64 0, .int .i64 0]).alloc (.cells #[.int .i64 0, .int .i64 0, .int .i64 0, .int .i64 0] 87)
  have n0 := Box.new (w.alloc (.cells #[.int .i64 0, .int .i64 0, .int .i64 0, .int .i64 0] 41)) 87 #[.int .i64 0, .int .i64 0, .int .i64 0, .int .i64 0]
  simp only [World.size_alloc] at n0
  have hx0 := ((Nx.refl w).alloc (.cells #[.int .i64 0, .int .i64 0, .int .i64 0, .int .i64 0] 41)).alloc (.cells #[.int .i64 0, .int .i64 0, .int .i64 0, .int .i64 0] 87)
  go_enter Tryd.func27, Tryd.ntmps27
  go_wp2
  generalize (w.alloc (.cells #[.int .i64 0, .int .i64 0, .int .i64 0, .int .i64 0] 41)).alloc (.cells #[.int .i64 0, .int .i64 0, .int .i64 0, .int .i64 0] 87) = W at *
  obtain ⟨gN, HgN⟩ : ∃ x, Hid (w.heap.size + 1 = x) := ⟨_, rfl⟩
  rw [HgN.out] at n0 ⊢
  have hgN : w.heap.size < gN := by have := HgN.out; omega
  go_loopw [4] (fun i wr => ∃ k : Nat, k ≤ 24 ∧ i = .int .i64 k ∧ Box wr gN 87 (vaV t k) ∧ Box wr w.heap.size 41 #[.int .i64 0, .int .i64 0, .int .i64 0, .int .i64 0] ∧ Nx w wr) (fun i _ => 24 - (intOf i).toNat)
  case atStart => exact ⟨0, by omega, rfl, n0, b0, hx0⟩
  case round =>
    obtain ⟨k, hk, rfl, bn, br, hx⟩ := hrel
    clear n0 b0 hx0
    by_cases hlt : k < 24
    · have hlt' : (k : Int) < 24 := by omega
      obtain ⟨q, Hq⟩ : ∃ q, Hid (k / 6 = q) := ⟨_, rfl⟩
      have hq : q < 4 := by have := Hq.out; omega
      obtain ⟨x, Hx⟩ : ∃ x, Hid (vaT t k q = x) := ⟨_, rfl⟩
      have hx6 : x < 1000000 := by rw [← Hx.out]; exact vaT_bd HD.out hq
      have hkt : k < t.size := by omega
      have hc : 48 ≤ (t[k].toNat : Int) ∧ (t[k].toNat : Int) ≤ 57 := by
        have := digL_yes HD.out (k := k) (by rw [List.length_take, ← ba_size]; omega)
        rw [List.getElem_take] at this
        exact digI_yes this
      have hv := vaT_next (t := t) (i := k) rfl hkt
      have c0 : wr.cell? ⟨gN, q, none⟩ = some (.int .i64 (x : Int)) := by rw [bn.cell, vaV_get hq, Hx.out]
      have f0 := bn.frozen q
      have e1 : (k : Int).tdiv 6 = (q : Int) := by rw [Int.tdiv_eq_ediv_of_nonneg (by omega)]; have := Hq.out; omega
      have e2 : (k : Int) / 6 = (q : Int) := by have := Hq.out; omega
      have q1 : (q : Int) < 4 := by omega
      have wq : IntKind.i64.wrap (q : Int) = q := IntWalk.i64_in _ (by omega)
      have wx : IntKind.i64.wrap ((x : Int) * 10) = (x : Int) * 10 := IntWalk.i64_in _ (by omega)
      have w3 : IntKind.i64.wrap ((t[k].toNat : Int) - 48) = (t[k].toNat : Int) - 48 := IntWalk.i64_in _ (by omega)
      have w4 : IntKind.i64.wrap ((x : Int) * 10 + ((t[k].toNat : Int) - 48)) = (x : Int) * 10 + ((t[k].toNat : Int) - 48) := IntWalk.i64_in _ (by omega)
      have hk0 : (0 : Int) ≤ (k : Int) := by omega
      have hkT : (k : Int) < (t.size : Int) := by omega
      have bd := bn.nx (Nx.refl wr).drew
      have brd := br.nx (Nx.refl wr).drew
      have hxd := hx.drew
      clear bn br hx c0 f0
      go_wp2_with fail
      refine wp_region_plan (.t 0 (.t 1 (.t 2 (.t 3 (.t 4 (.t 7 (.t 8 (.t 9 (.t 10 (.t 11 (.c 5 (.t 6 (.t 12 (.t 13 (.c 14 .e))))))))))))))) (fun _ => True) (by kernel_rfl) (by kernel_rfl) rfl (by kernel_rfl) (fun _ _ d _ _ h => by cases d <;> exact h) (by exact True.intro) ?_
      simp only [psOf, List.getD_cons_zero, List.getD_cons_succ]
      repeat (first | (refine HP.take (v := ?_) (by rfl) ?_ ?_; rotate_left; (· (intro w hSw; (try dsimp only at hSw); go_simp; try with_reducible rfl)); (try simp only [Act.put, List.setIfInBounds_toArray, List.set_cons_zero, List.set_cons_succ])) | (refine HP.skip (by rfl) ?_; (try simp only [Act.put, List.setIfInBounds_toArray, List.set_cons_zero, List.set_cons_succ])))
      change HP _ _ _ _ _ _ wr.drew
      generalize wr.drew = wd at *
      have c0 : wd.cell? ⟨gN, q, none⟩ = some (.int .i64 (x : Int)) := by rw [bd.cell, vaV_get hq, Hx.out]
      have f0 := bd.frozen q
      refine HP.call ?_
      refine CallStep.mk (by rfl) (fun K hK => ?_)
      go_simp
      refine hK.out _ _ (by exact True.intro) ?_
      clear hK K
      try simp only [Act.put, List.setIfInBounds_toArray, List.set_cons_zero, List.set_cons_succ]
      repeat (first | (refine HP.take (v := ?_) (by rfl) ?_ ?_; rotate_left; (· (intro w hSw; (try dsimp only at hSw); go_simp; try with_reducible rfl)); (try simp only [Act.put, List.setIfInBounds_toArray, List.set_cons_zero, List.set_cons_succ])) | (refine HP.skip (by rfl) ?_; (try simp only [Act.put, List.setIfInBounds_toArray, List.set_cons_zero, List.set_cons_succ])))
      refine HP.call ?_
      refine CallStep.mk (by rfl) (fun K hK => ?_)
      go_simp
      refine hK.out _ _ (by exact True.intro) ?_
      clear hK K
      try simp only [Act.put, List.setIfInBounds_toArray, List.set_cons_zero, List.set_cons_succ]
      refine HP.done ?_
      obtain ⟨z, hz⟩ : ∃ z : Nat, (x : Int) * 10 + ((t[k].toNat : Int) - 48) = (z : Int) := ⟨10 * x + (t[k].toNat - 48), by omega⟩
      have hvz : vaT t (k + 1) (k / 6) = z := by rw [hv, Hq.out, Hx.out]; omega
      have b3 := bd.set q (.int .i64 (z : Int))
      rw [← Hq.out, vaV_next hlt z hvz, Hq.out] at b3
      have br3 := brd.far (p := ⟨gN, q, none⟩) (by simp; omega) (.int .i64 (z : Int))
      have hx3 := hxd.setCell (p := ⟨gN, q, none⟩) (by simp; omega) (.int .i64 (z : Int))
      rw [← hz] at b3 br3 hx3
      clear hz
      go_wp2
      go_roundw
      case rel => exact ⟨k + 1, by omega, by go_num, b3, br3, hx3⟩
      case measure => simp [intOf]; omega
    · obtain rfl : k = 24 := by omega
      have bn' : Box wr gN 87 #[.int .i64 (vaT t 24 0 : Int), .int .i64 (vaT t 24 1 : Int), .int .i64 (vaT t 24 2 : Int), .int .i64 (vaT t 24 3 : Int)] := bn
      clear bn
      obtain ⟨y0, Hy0⟩ : ∃ y, Hid (vaT t 24 0 = y) := ⟨_, rfl⟩
      obtain ⟨y1, Hy1⟩ : ∃ y, Hid (vaT t 24 1 = y) := ⟨_, rfl⟩
      obtain ⟨y2, Hy2⟩ : ∃ y, Hid (vaT t 24 2 = y) := ⟨_, rfl⟩
      obtain ⟨y3, Hy3⟩ : ∃ y, Hid (vaT t 24 3 = y) := ⟨_, rfl⟩
      rw [Hy0.out, Hy1.out, Hy2.out, Hy3.out] at bn'
      obtain ⟨x0, x1, x2, x3⟩ := bn'.d4
      obtain ⟨c0, c1, c2, c3⟩ := br.d4
      have f0 := br.frozen 0
      have f1 := br.frozen 1
      have f2 := br.frozen 2
      have f3 := br.frozen 3
      go_wp2
      have q := put4_box br (.int .i64 y0) (.int .i64 y1) (.int .i64 y2) (.int .i64 y3)
      have hnf := put4_nx hx (Nat.le_refl w.heap.size) (.int .i64 y0) (.int .i64 y1) (.int .i64 y2) (.int .i64 y3)
      change bodyPost _ _ _ _ _ (put4 wr w.heap.size (.int .i64 y0) (.int .i64 y1) (.int .i64 y2) (.int .i64 y3))
      generalize put4 wr w.heap.size (.int .i64 y0) (.int .i64 y1) (.int .i64 y2) (.int .i64 y3) = Wf at *
      obtain ⟨g0, g1, g2, g3⟩ := q.d4
      exact bodyPost_ret (v := .agg #[.int .i64 y0, .int .i64 y1, .int .i64 y2, .int .i64 y3]) (by simp [results, Tryd.results27, go_sem, g0, g1, g2, g3]) rfl ⟨by rw [Hy0.out, Hy1.out, Hy2.out, Hy3.out]; rfl, hnf⟩
end Go.Proofs.YtehahodomfbpjaaDoor
/- Plain facts for FnCodec: what a text of 24 digits and another's sum is read as. Conditions: none. -/
namespace Go.Proofs.YtehahodomfbpjaaDoor
set_option linter.unusedVariables false
set_option maxRecDepth 100000
open Go.RowKit

theorem chunk_va {t : ByteArray} {q : Nat} (hq : q < 4) : valL (chunk (t.data.toList.take 24) q) = vaT t 24 q := by
  unfold chunk vaT
  rw [show min (24 - 6 * q) 6 = 6 by omega, List.drop_take, List.take_take, show min 6 (24 - 6 * q) = 6 by omega]
theorem rdN_va {t : ByteArray} (ht : t.size = 27) (hd : digL (t.data.toList.take 24) = true) (ho : opensB t = true) : rdN t = some [vaT t 24 0, vaT t 24 1, vaT t 24 2, vaT t 24 3] := by
  have hl : (t.data.toList.take 24).length = 24 := by rw [List.length_take, ← ba_size]; omega
  rw [rdN_yes ho, bodyOf_list, ht, numsO_yes (by rw [hl]) hd, hl]
  show some [valL (chunk (t.data.toList.take 24) 0), valL (chunk (t.data.toList.take 24) 1), valL (chunk (t.data.toList.take 24) 2), valL (chunk (t.data.toList.take 24) 3)] = _
  rw [chunk_va (by omega), chunk_va (by omega), chunk_va (by omega), chunk_va (by omega)]
theorem opens_bent {t b : ByteArray} (ht : t.size = 27) (hs : t.data.toList.drop 24 = sumD b) : opensB t = decide (sumS (bodyOf t) = sumS b) := by
  rw [← opens_other]
  congr 1
  apply ba_ext
  rw [ba_app, bodyOf_list, ht]
  show t.data.toList = t.data.toList.take 24 ++ sumD b
  rw [← hs, List.take_append_drop]
/-- A bent text is read if and only if its sum is the old one and its numbers are a frame's. -/
theorem frC_bent {t b : ByteArray} (ht : t.size = 27) (hd : digL (t.data.toList.take 24) = true) (hs : t.data.toList.drop 24 = sumD b) :
    frC t = if sumS (bodyOf t) = sumS b ∧ frameB (vaT t 24 0) (vaT t 24 1) (vaT t 24 2) (vaT t 24 3) = true then 0 else 3 := by
  have ho := opens_bent ht hs
  unfold frC
  rw [if_pos (by omega)]
  by_cases h1 : sumS (bodyOf t) = sumS b
  case neg =>
    rw [decide_eq_false h1] at ho
    rw [rdF_none (rdN_no ho)]; exact (if_neg (fun h => h1 h.1)).symm
  case pos =>
    rw [decide_eq_true h1] at ho
    rw [rdF_four (rdN_va ht hd ho)]
    by_cases h2 : frameB (vaT t 24 0) (vaT t 24 1) (vaT t 24 2) (vaT t 24 3) = true
    · rw [if_pos h2]; exact (if_pos ⟨h1, h2⟩).symm
    · rw [if_neg h2]; exact (if_neg (fun h => h2 h.2)).symm
end Go.Proofs.YtehahodomfbpjaaDoor
/- A frame's text with another digit: its length, its digits, its sum's text. Conditions: those of each theorem. -/
namespace Go.Proofs.YtehahodomfbpjaaDoor
set_option linter.unusedVariables false
set_option maxRecDepth 100000
open Go.RowKit

def bend (s : ByteArray) (k : Nat) (b : UInt8) : ByteArray := s.extract 0 k ++ ⟨#[b]⟩ ++ s.extract (k + 1) s.size
theorem bend_list (s : ByteArray) (k : Nat) (b : UInt8) : (bend s k b).data.toList = s.data.toList.take k ++ [b] ++ s.data.toList.drop (k + 1) := by
  unfold bend
  rw [ba_app, ba_app, Lib.extract_data, Lib.extract_data]
  have e : List.take (s.size - (k + 1)) (List.drop (k + 1) s.data.toList) = List.drop (k + 1) s.data.toList := by
    rw [List.take_of_length_le]
    rw [List.length_drop, ← ba_size]
    omega
  rw [e]; rfl
theorem bend_facts {q0 q1 q2 q3 : Nat} (h : frameB q0 q1 q2 q3 = true) {k : Nat} (hk : k < 24) {b : UInt8} (hb : digC b = true) :
    (bend (frameS q0 q1 q2 q3) k b).size = 27 ∧ digL ((bend (frameS q0 q1 q2 q3) k b).data.toList.take 24) = true ∧ (bend (frameS q0 q1 q2 q3) k b).data.toList.drop 24 = sumD (numsS [q0, q1, q2, q3]) := by
  have hn : (numsS [q0, q1, q2, q3]).data.toList.length = 24 := by rw [← ba_size, numsS_size]; rfl
  have hd : digL (numsS [q0, q1, q2, q3]).data.toList = true := digL_padAll [q0, q1, q2, q3]
  have hl := bend_list (frameS q0 q1 q2 q3) k b
  rw [frameS_yes h] at hl ⊢
  rw [sealS_list] at hl
  generalize (numsS [q0, q1, q2, q3]).data.toList = n at hl hn hd
  have e : (bend (sealS (numsS [q0, q1, q2, q3])) k b).data.toList = (n.take k ++ [b] ++ n.drop (k + 1)) ++ sumD (numsS [q0, q1, q2, q3]) := by
    rw [hl, List.take_append_of_le_length (by omega), List.drop_append_of_le_length (by omega)]
    simp
  have e2 : (n.take k ++ [b] ++ n.drop (k + 1)).length = 24 := by
    simp only [List.length_append, List.length_take, List.length_drop, List.length_cons, List.length_nil]; omega
  refine ⟨?_, ?_, ?_⟩
  · rw [ba_size, e, List.length_append, e2, sumD_len]
  · rw [e, List.take_append_of_le_length (by omega), List.take_of_length_le (by omega), digL_app, digL_app]
    have h1 : digL (n.take k) = true := by unfold digL at hd ⊢; exact List.all_eq_true.2 fun x hx => List.all_eq_true.1 hd x (List.mem_of_mem_take hx)
    have h2 : digL (n.drop (k + 1)) = true := by unfold digL at hd ⊢; exact List.all_eq_true.2 fun x hx => List.all_eq_true.1 hd x (List.mem_of_mem_drop hx)
    rw [h1, h2]
    show (true && (digC b && true)) && true = true
    rw [hb]; rfl
  · rw [e, List.drop_append_of_le_length (by omega), List.drop_of_length_le (by omega)]; rfl
theorem body24 {q0 q1 q2 q3 : Nat} (h : frameB q0 q1 q2 q3 = true) : (frameS q0 q1 q2 q3).extract 0 24 = numsS [q0, q1, q2, q3] := by
  have hn : (numsS [q0, q1, q2, q3]).data.toList.length = 24 := by rw [← ba_size, numsS_size]; rfl
  apply ba_ext
  rw [Lib.extract_data, frameS_yes h, sealS_list, List.drop_zero, List.take_append_of_le_length (by omega), List.take_of_length_le (by omega)]
theorem body_27 {t : ByteArray} (h : t.size = 27) : bodyOf t = t.extract 0 24 := by unfold bodyOf; rw [h]
theorem digit_at {q0 q1 q2 q3 : Nat} (h : frameB q0 q1 q2 q3 = true) {k : Nat} (hk : k < 24) (hs : k < (frameS q0 q1 q2 q3).size) : ∃ d, d ≤ 9 ∧ (frameS q0 q1 q2 q3)[k].toNat = 48 + d := by
  have hn : (numsS [q0, q1, q2, q3]).data.toList.length = 24 := by rw [← ba_size, numsS_size]; rfl
  have hd : digL (numsS [q0, q1, q2, q3]).data.toList = true := digL_padAll [q0, q1, q2, q3]
  have hk' : k < (numsS [q0, q1, q2, q3]).data.toList.length := by omega
  have hl : (frameS q0 q1 q2 q3).data.toList = (numsS [q0, q1, q2, q3]).data.toList ++ sumD (numsS [q0, q1, q2, q3]) := by rw [frameS_yes h, sealS_list]
  have e1 : (frameS q0 q1 q2 q3)[k] = (frameS q0 q1 q2 q3).data.toList[k]'(by rw [← ba_size]; exact hs) := rfl
  have e2 : (frameS q0 q1 q2 q3).data.toList[k]? = some ((numsS [q0, q1, q2, q3]).data.toList[k]'hk') := by rw [hl, List.getElem?_append_left hk', List.getElem?_eq_getElem hk']
  rw [List.getElem?_eq_getElem (by rw [← ba_size]; exact hs)] at e2
  have e := e1.trans (Option.some.inj e2)
  have h1 : digC ((numsS [q0, q1, q2, q3]).data.toList[k]'hk') = true := digL_yes hd hk'
  rw [← e] at h1
  unfold digC digI at h1
  simp only [Bool.and_eq_true, decide_eq_true_eq] at h1
  exact ⟨(frameS q0 q1 q2 q3)[k].toNat - 48, by omega, by omega⟩
theorem digC_of {r : Nat} (h : r ≤ 9) : digC (UInt8.ofNat (48 + r)) = true := by
  unfold digC digI
  rw [UInt8.toNat_ofNat']
  simp
  omega
end Go.Proofs.YtehahodomfbpjaaDoor
/- The walk of the law FnCodec. Conditions: the lists of bytes that come in can be read; the two errors of the program lie as its text lays them. -/
namespace Go.Proofs.YtehahodomfbpjaaDoor
set_option linter.unusedVariables false
set_option maxRecDepth 100000
open Go.RowKit
set_option maxRecDepth 100000 in
set_option maxHeartbeats 8000000 in
theorem lawCodec (A1 : Option Addr) (n1 c1 : Nat) (ys1 : List Nat) (A2 : Option Addr) (n2 c2 : Nat) (ys2 : List Nat) (w : World) (a0 a1 : Addr) (hE : Er w a0 a1) (h1 : U8s w w.heap.size A1 n1 ys1) (hn1 : n1 ≤ 2 ^ 63 - 1) (h2 : U8s w w.heap.size A2 n2 ys2) (hn2 : n2 ≤ 2 ^ 63 - 1) :
    Calls Tryd.prog 4 #[.slice A1 n1 c1, .slice A2 n2 c2] w fun e w' => e = .returned (.bool true) ∧ Nx w w' := by
  by_cases hb1 : n1 ≤ 1048576
  case neg =>
    have d1 : decide (1048576 < (n1 : Int)) = true := by simp; omega
    go_enter Tryd.func4, Tryd.ntmps4
    go_wp2
    go_ret
    exact ⟨rfl, Nx.refl _⟩
  have d1 : decide (1048576 < (n1 : Int)) = false := by simp; omega
  by_cases hb2 : n2 ≤ 1048576
  case neg =>
    have d2 : decide (1048576 < (n2 : Int)) = true := by simp; omega
    go_enter Tryd.func4, Tryd.ntmps4
    go_wp2
    go_ret
    exact ⟨rfl, Nx.refl _⟩
  have d2 : decide (1048576 < (n2 : Int)) = false := by simp; omega
  go_enter Tryd.func4, Tryd.ntmps4
  go_wp2_with fail
  refine (segDrawn_c A1 n1 c1 ys1 _ h1 hb1).mono ?_
  rintro e w1 ⟨f, t, m, cs, A, c, rfl, hf, hl, hS, hx1⟩
  have HF := Lib.hid hf
  clear hf
  go_wp2_with fail
  have b1 := Box.new w1 38 #[.int .i64 f, .int .i64 t, .int .i64 m, .slice A cs.length c]
  have hS1 := hS.nx ((Nx.refl w1).alloc (.cells #[.int .i64 f, .int .i64 t, .int .i64 m, .slice A cs.length c] 38))
  have hX1 := hx1.alloc (.cells #[.int .i64 f, .int .i64 t, .int .i64 m, .slice A cs.length c] 38)
  clear hS hx1
  generalize w1.alloc (.cells #[.int .i64 f, .int .i64 t, .int .i64 m, .slice A cs.length c] 38) = W1 at *
  have u2 := (h2.below hX1 (Nat.le_refl _)).more hX1.size
  refine (frameDrawn_c A2 n2 c2 ys2 _ u2 hb2).mono ?_
  rintro e w2 ⟨⟨q0, q1, q2, q3⟩, rfl, hq, hx2⟩
  have HQ := Lib.hid hq
  clear hq
  rw [show vF (q0, q1, q2, q3) = .agg #[.int .i64 q0, .int .i64 q1, .int .i64 q2, .int .i64 q3] from rfl]
  have b2 := b1.nx hx2
  obtain ⟨k0, k1, k2, k3⟩ := b2.d4
  have hlt := b2.lt
  go_wp2_with fail
  have b3 := b2.alloc (.cells #[.int .i64 q0, .int .i64 q1, .int .i64 q2, .int .i64 q3] 41)
  have d3 := Box.new w2 41 #[.int .i64 q0, .int .i64 q1, .int .i64 q2, .int .i64 q3]
  have hX2 := (hX1.trans hx2).alloc (.cells #[.int .i64 q0, .int .i64 q1, .int .i64 q2, .int .i64 q3] 41)
  have hS2 := (hS1.nx hx2).nx ((Nx.refl w2).alloc (.cells #[.int .i64 q0, .int .i64 q1, .int .i64 q2, .int .i64 q3] 41))
  clear b2 hS1 k0 k1 k2 k3 hlt u2 b1
  generalize w2.alloc (.cells #[.int .i64 q0, .int .i64 q1, .int .i64 q2, .int .i64 q3] 41) = W2 at *
  have hl9 : cs.length ≤ 1048576 := by omega
  obtain ⟨s1, Hs1⟩ : ∃ x, Hid (segS f t m cs = x) := ⟨_, rfl⟩
  obtain ⟨s2, Hs2⟩ : ∃ x, Hid (frameS q0 q1 q2 q3 = x) := ⟨_, rfl⟩
  have z1 : codeB (segB f t m cs) 1 = 0 := by rw [HF.out]; rfl
  have z2 : codeB (frameB q0 q1 q2 q3) 1 = 0 := by rw [HQ.out]; rfl
  have Z1 := Lib.hid z1
  have Z2 := Lib.hid z2
  clear z1 z2
  refine (implSegText_c f t m A c W2.heap.size cs _ hS2.row (Nat.le_refl _) hl9).mono ?_
  rintro e w3 ⟨rfl, hx3⟩
  rw [Hs1.out, Z1.out]
  have b4 := b3.nx hx3
  have d4 := d3.nx hx3
  have hS3 := hS2.nx hx3
  have hX3 := hX2.trans hx3
  clear b3 d3 hS2
  obtain ⟨k0, k1, k2, k3⟩ := b4.d4
  go_wp2_with fail
  refine (specSegText_c f t m A c w3.heap.size cs _ hS3.row (Nat.le_refl _) hl9).mono ?_
  rintro e w4 ⟨rfl, hx4⟩
  rw [Hs1.out, Z1.out]
  have b5 := b4.nx hx4
  have d5 := d4.nx hx4
  have hS4 := hS3.nx hx4
  have hX4 := hX3.trans hx4
  clear b4 d4 hS3 k0 k1 k2 k3
  go_wp2_with fail
  refine (implReadSeg_c s1 _ a0 a1 (hE.nx hX4)).mono ?_
  rintro e w5 hR
  obtain ⟨hx5, A3, c3, rfl, hS5⟩ := hR.un (q0 := f) (q1 := t) (q2 := m) (cs := cs) (cd := 0) (by rw [← Hs1.out]; exact (sgA_back HF.out hl).1) (by rw [← Hs1.out]; exact (sgA_back HF.out hl).2)
  clear hR
  have b6 := b5.nx hx5
  have d6 := d5.nx hx5
  have hS6 := hS4.nx hx5
  have hX5 := hX4.trans hx5
  clear b5 d5 hS4
  obtain ⟨k0, k1, k2, k3⟩ := d6.d4
  have hlt := d6.lt
  go_wp2_with fail
  have b7 := b6.alloc (.cells #[.int .i64 f, .int .i64 t, .int .i64 m, .slice A3 cs.length c3] 38)
  have d7 := d6.alloc (.cells #[.int .i64 f, .int .i64 t, .int .i64 m, .slice A3 cs.length c3] 38)
  have e7 := Box.new w5 38 #[.int .i64 f, .int .i64 t, .int .i64 m, .slice A3 cs.length c3]
  have hS7 := hS6.nx ((Nx.refl w5).alloc (.cells #[.int .i64 f, .int .i64 t, .int .i64 m, .slice A3 cs.length c3] 38))
  have hT7 := hS5.nx ((Nx.refl w5).alloc (.cells #[.int .i64 f, .int .i64 t, .int .i64 m, .slice A3 cs.length c3] 38))
  have hX6 := hX5.alloc (.cells #[.int .i64 f, .int .i64 t, .int .i64 m, .slice A3 cs.length c3] 38)
  clear b6 d6 hS5 hS6 k0 k1 k2 k3 hlt
  generalize w5.alloc (.cells #[.int .i64 f, .int .i64 t, .int .i64 m, .slice A3 cs.length c3] 38) = W5 at *
  refine (implFrameText_c q0 q1 q2 q3 _).mono ?_
  rintro e w6 ⟨rfl, hx6⟩
  rw [Hs2.out, Z2.out]
  have b8 := b7.nx hx6
  have d8 := d7.nx hx6
  have e8 := e7.nx hx6
  have hS8 := hS7.nx hx6
  have hT8 := hT7.nx hx6
  have hX7 := hX6.trans hx6
  clear b7 d7 e7 hS7 hT7
  obtain ⟨k0, k1, k2, k3⟩ := d8.d4
  go_wp2_with fail
  refine (specFrameText_c q0 q1 q2 q3 _).mono ?_
  rintro e w7 ⟨rfl, hx7⟩
  rw [Hs2.out, Z2.out]
  have b9 := b8.nx hx7
  have d9 := d8.nx hx7
  have e9 := e8.nx hx7
  have hS9 := hS8.nx hx7
  have hT9 := hT8.nx hx7
  have hX8 := hX7.trans hx7
  clear b8 d8 e8 hS8 hT8 k0 k1 k2 k3
  go_wp2_with fail
  refine (implReadFrame_c s2 _ a0 a1 (hE.nx hX8)).mono ?_
  rintro e w8 ⟨rfl, hx8⟩
  rw [← Hs2.out, (frA_back HQ.out).1, (frA_back HQ.out).2, Hs2.out]
  rw [show vF (q0, q1, q2, q3) = .agg #[.int .i64 q0, .int .i64 q1, .int .i64 q2, .int .i64 q3] from rfl]
  have ba := b9.nx hx8
  have da := d9.nx hx8
  have ea := e9.nx hx8
  have hSa := hS9.nx hx8
  have hTa := hT9.nx hx8
  have hX9 := hX8.trans hx8
  clear b9 d9 e9 hS9 hT9
  obtain ⟨k0, k1, k2, k3⟩ := ba.d4
  obtain ⟨l0, l1, l2, l3⟩ := ea.d4
  obtain ⟨j0, j1, j2, j3⟩ := da.d4
  have hltb := ba.lt
  have hlte := ea.lt
  have hltd := da.lt
  have hs27 : s2.size = 27 := by rw [← Hs2.out]; exact frameS_size HQ.out
  go_wp2_with fail
  have bb := ba.alloc (.cells #[.int .i64 q0, .int .i64 q1, .int .i64 q2, .int .i64 q3] 41)
  have db := da.alloc (.cells #[.int .i64 q0, .int .i64 q1, .int .i64 q2, .int .i64 q3] 41)
  have hSb := hSa.nx ((Nx.refl w8).alloc (.cells #[.int .i64 q0, .int .i64 q1, .int .i64 q2, .int .i64 q3] 41))
  have hTb := hTa.nx ((Nx.refl w8).alloc (.cells #[.int .i64 q0, .int .i64 q1, .int .i64 q2, .int .i64 q3] 41))
  have hXa := hX9.alloc (.cells #[.int .i64 q0, .int .i64 q1, .int .i64 q2, .int .i64 q3] 41)
  have gb := Box.new w8 41 #[.int .i64 q0, .int .i64 q1, .int .i64 q2, .int .i64 q3]
  clear ba da ea hSa hTa k0 k1 k2 k3 l0 l1 l2 l3 j0 j1 j2 j3 hltb hlte hltd
  generalize w8.alloc (.cells #[.int .i64 q0, .int .i64 q1, .int .i64 q2, .int .i64 q3] 41) = W8 at *
  refine (sameSeg_c f t m A3 A c3 c W8.heap.size cs _ hTb.row hSb.row (Nat.le_refl _) hl9).mono ?_
  rintro e w9 ⟨rfl, hx9⟩
  have bc := bb.nx hx9
  have dc := db.nx hx9
  have gc := gb.nx hx9
  have hSc := hSb.nx hx9
  have hXb := hXa.trans hx9
  clear bb db gb hSb hTb
  obtain ⟨k0, k1, k2, k3⟩ := bc.d4
  obtain ⟨j0, j1, j2, j3⟩ := dc.d4
  obtain ⟨l0, l1, l2, l3⟩ := gc.d4
  go_wp2_with fail
  refine (implSegOK_c f t m A c w9.heap.size cs _ hSc.row (Nat.le_refl _) hl9).mono ?_
  rintro e wa ⟨rfl, hxa⟩
  rw [HF.out]
  have dd := dc.nx hxa
  have hXc := hXb.trans hxa
  clear k0 k1 k2 k3 j0 j1 j2 j3 l0 l1 l2 l3 bc dc gc hSc
  obtain ⟨j0, j1, j2, j3⟩ := dd.d4
  go_wp2_with fail
  refine (implFrameOK_c q0 q1 q2 q3 _).mono ?_
  rintro e wb ⟨rfl, hxb⟩
  rw [HQ.out]
  have hXd := hXc.trans hxb
  clear j0 j1 j2 j3 dd
  go_wp2_with fail
  refine (at_c A2 n2 c2 0 24 w.heap.size ys2 _ (h2.below hXd (Nat.le_refl _)) hXd.size hb2 (by omega) (by omega) (by omega)).mono ?_
  rintro e wc ⟨k, rfl, hk, hxc⟩
  have hXe := hXd.trans hxc
  go_wp2_with fail
  have hk7 : k < s2.size := by omega
  have hk8 : (k : Int) < (s2.size : Int) := by omega
  have hk9 : (k : Int) ≤ (s2.size : Int) := by omega
  have hka : (k : Int) + 1 ≤ (s2.size : Int) := by omega
  have hkb : k + 1 ≤ s2.size := by omega
  have hkc : ((k : Int) + 1).toNat = k + 1 := by omega
  have hkd : IntKind.i64.wrap ((k : Int) + 1) = (k : Int) + 1 := IntWalk.i64_in _ (by omega)
  have hke : (0 : Int) ≤ (k : Int) + 1 := by omega
  have HK := Lib.hid hk
  have Hs27 := Lib.hid hs27
  obtain ⟨d, hd9, hdd⟩ : ∃ d, d ≤ 9 ∧ s2[k].toNat = 48 + d := by
    have := digit_at HQ.out hk (by rw [frameS_size HQ.out]; omega)
    obtain ⟨d, h1, h2⟩ := this
    refine ⟨d, h1, ?_⟩
    rw [← h2]
    have e := Hs2.out
    subst e
    rfl
  have hu1 : IntKind.u8.wrap ((s2[k].toNat : Int) - 48) = (d : Int) := by rw [hdd]; unfold IntKind.wrap; simp [IntKind.bits, IntKind.signed]; omega
  have hu2 : IntKind.u8.wrap ((d : Int) + 1) = (d : Int) + 1 := by unfold IntKind.wrap; simp [IntKind.bits, IntKind.signed]; omega
  have Hdd := Lib.hid hdd
  clear hs27 hdd hk
  refine wp_region_plan (.t 0 (.t 1 (.t 2 (.t 3 (.t 4 (.t 5 (.t 6 (.t 7 (.t 8 (.t 17 (.t 18 (.t 19 (.t 20 (.c 9 (.t 10 (.t 11 (.t 12 (.t 13 (.c 14 (.c 15 (.t 16 (.t 21 (.t 22 .e))))))))))))))))))))))) (fun _ => True) (by kernel_rfl) (by kernel_rfl) rfl (by kernel_rfl) (fun _ _ d _ _ h => by cases d <;> exact h) (by exact trivial) ?_
  simp only [psOf, List.getD_cons_zero, List.getD_cons_succ]
  repeat (first | (refine HP.take (v := ?_) (by rfl) ?_ ?_; rotate_left; (· (intro w hSw; (try dsimp only at hSw); go_simp; try with_reducible rfl)); (try simp only [Act.put, List.setIfInBounds_toArray, List.set_cons_zero, List.set_cons_succ])) | (refine HP.skip (by rfl) ?_; (try simp only [Act.put, List.setIfInBounds_toArray, List.set_cons_zero, List.set_cons_succ])))
  refine HP.call ?_
  refine CallStep.mk (by rfl) (fun K hK => ?_)
  go_simp
  refine (at_c A2 n2 c2 1 9 w.heap.size ys2 _ (h2.below hXe.drew (Nat.le_refl _)) hXe.drew.size hb2 (by omega) (by omega) (by omega)).mono ?_
  rintro e wd ⟨j, rfl, hj, hxd⟩
  have hXf := hXe.drew.trans hxd
  obtain ⟨z, Hz⟩ : ∃ z, Hid (d + 1 + j = z) := ⟨_, rfl⟩
  have hz9 : z ≤ 18 := by have := Hz.out; omega
  have hu3 : IntKind.u8.wrap (j : Int) = (j : Int) := by unfold IntKind.wrap; simp [IntKind.bits, IntKind.signed]; omega
  have hu4 : IntKind.u8.wrap ((d : Int) + 1 + (j : Int)) = (z : Int) := by rw [← Hz.out]; unfold IntKind.wrap; simp [IntKind.bits, IntKind.signed]; omega
  obtain ⟨r, Hr⟩ : ∃ r, Hid (z % 10 = r) := ⟨_, rfl⟩
  have hr9 : r ≤ 9 := by have := Hr.out; omega
  have hu5 : Int.tmod (z : Int) 10 = (r : Int) := by rw [← Hr.out, Int.tmod_eq_emod_of_nonneg (by omega)]; omega
  obtain ⟨y, Hy⟩ : ∃ y, Hid (48 + r = y) := ⟨_, rfl⟩
  have hy9 : y ≤ 57 := by have := Hy.out; omega
  have hu6 : IntKind.u8.wrap (48 + (r : Int)) = (y : Int) := by rw [← Hy.out]; unfold IntKind.wrap; simp [IntKind.bits, IntKind.signed]; omega
  go_wp2_with fail
  refine hK.out _ _ (by exact trivial) ?_
  clear hK K
  try simp only [Act.put, List.setIfInBounds_toArray, List.set_cons_zero, List.set_cons_succ]
  repeat (first | (refine HP.take (v := ?_) (by rfl) ?_ ?_; rotate_left; (· (intro w hSw; (try dsimp only at hSw); go_simp; try with_reducible rfl)); (try simp only [Act.put, List.setIfInBounds_toArray, List.set_cons_zero, List.set_cons_succ])) | (refine HP.skip (by rfl) ?_; (try simp only [Act.put, List.setIfInBounds_toArray, List.set_cons_zero, List.set_cons_succ])))
  refine HP.call ?_
  refine CallStep.mk (by rfl) (fun K hK => ?_)
  go_simp
  refine hK.out _ _ (by exact trivial) ?_
  clear hK K
  try simp only [Act.put, List.setIfInBounds_toArray, List.set_cons_zero, List.set_cons_succ]
  have hcv := cv_one (y : Int) (by omega) (by omega) (wd.alloc (.cells #[.int .u8 (y : Int)] 5)) wd.heap.size ((Box.new wd 5 #[.int .u8 (y : Int)]).cell 0)
  rw [Int.toNat_natCast] at hcv
  refine HP.call ?_
  refine CallStep.mk (by rfl) (fun K hK => ?_)
  go_simp
  refine hK.out _ _ (by exact trivial) ?_
  clear hK K
  try simp only [Act.put, List.setIfInBounds_toArray, List.set_cons_zero, List.set_cons_succ]
  obtain ⟨x1, Hx1⟩ : ∃ x, Hid (s2.extract 0 k = x) := ⟨_, rfl⟩
  obtain ⟨x2, Hx2⟩ : ∃ x, Hid (s2.extract (k + 1) s2.size = x) := ⟨_, rfl⟩
  obtain ⟨x3, Hx3⟩ : ∃ x : ByteArray, Hid (⟨#[UInt8.ofNat y]⟩ = x) := ⟨_, rfl⟩
  have hs1 : x1.size ≤ 27 := by rw [← Hx1.out, ByteArray.size_extract]; have := Hs27.out; omega
  have hs2 : x2.size ≤ 27 := by rw [← Hx2.out, ByteArray.size_extract]; have := Hs27.out; omega
  have hs3 : x3.size ≤ 1 := by rw [← Hx3.out]; exact Nat.le_refl _
  rw [Hx1.out, Hx2.out, Hx3.out]
  refine HP.take (v := .string (x1 ++ x3)) (by rfl) (fun w hSw => by go_simp; omega) ?_
  try simp only [Act.put, List.setIfInBounds_toArray, List.set_cons_zero, List.set_cons_succ]
  refine HP.take (v := .string (x1 ++ x3 ++ x2)) (by rfl) (fun w hSw => by go_simp; omega) ?_
  try simp only [Act.put, List.setIfInBounds_toArray, List.set_cons_zero, List.set_cons_succ]
  repeat (first | (refine HP.take (v := ?_) (by rfl) ?_ ?_; rotate_left; (· (intro w hSw; (try dsimp only at hSw); go_simp; try with_reducible rfl)); (try simp only [Act.put, List.setIfInBounds_toArray, List.set_cons_zero, List.set_cons_succ])) | (refine HP.skip (by rfl) ?_; (try simp only [Act.put, List.setIfInBounds_toArray, List.set_cons_zero, List.set_cons_succ])))
  refine HP.done ?_
  clear hcv
  have hXg := hXf.alloc (.cells #[.int .u8 (y : Int)] 5)
  generalize wd.alloc (.cells #[.int .u8 (y : Int)] 5) = We at *
  obtain ⟨bt, Hbt⟩ : ∃ x, Hid (x1 ++ x3 ++ x2 = x) := ⟨_, rfl⟩
  rw [Hbt.out]
  have HB := Lib.hid (show bend s2 k (UInt8.ofNat y) = bt by unfold bend; rw [Hx1.out, Hx2.out, Hx3.out, Hbt.out])
  have hr99 := Lib.hid hr9
  clear hs1 hs2 hs3 hu1 hu2 hu3 hu4 hu5 hu6 hd9 hz9 hr9 hy9
  obtain ⟨hb27, hbd, hbs⟩ : bt.size = 27 ∧ digL (bt.data.toList.take 24) = true ∧ bt.data.toList.drop 24 = sumD (numsS [q0, q1, q2, q3]) := by
    have := bend_facts HQ.out HK.out (digC_of hr99.out)
    rw [← HB.out, ← Hs2.out, ← Hy.out]; exact this
  have HE := Lib.hid (frC_bent hb27 hbd hbs)
  have HB27 := Lib.hid hb27
  have HBD := Lib.hid hbd
  have hb24 : 24 ≤ bt.size := by omega
  have hb24' : (24 : Int) ≤ (bt.size : Int) := by omega
  have hs24 : 24 ≤ s2.size := by have := Hs27.out; omega
  have hs24' : (24 : Int) ≤ (s2.size : Int) := by omega
  have hs1 : 1 ≤ s2.size := by omega
  have hs1' : (1 : Int) ≤ (s2.size : Int) := by omega
  have he24 : (bt.extract 0 24).size ≤ 24 := by rw [ByteArray.size_extract]; omega
  have he25 : (s2.extract 0 24).size ≤ 24 := by rw [ByteArray.size_extract]; omega
  obtain ⟨sa, HA⟩ : ∃ x, Hid (sumOfS (bt.extract 0 24) = x) := ⟨_, rfl⟩
  obtain ⟨sc, HC⟩ : ∃ x, Hid (sumOfS (s2.extract 0 24) = x) := ⟨_, rfl⟩
  have HSA := Lib.hid (show sumS (bodyOf bt) = sa by rw [body_27 hb27, ← HA.out]; unfold sumOfS; rw [if_pos (by omega)])
  have HSC := Lib.hid (show sumS (numsS [q0, q1, q2, q3]) = sc by rw [← body24 HQ.out, Hs2.out, ← HC.out]; unfold sumOfS; rw [if_pos (by omega)])
  obtain ⟨fb, HFB⟩ : ∃ x, Hid (frameB (vaT bt 24 0) (vaT bt 24 1) (vaT bt 24 2) (vaT bt 24 3) = x) := ⟨_, rfl⟩
  obtain ⟨ce, HCE⟩ : ∃ x, Hid (frC bt = x) := ⟨_, rfl⟩
  have HCE2 := Lib.hid (show ce = if sa = sc ∧ fb = true then 0 else 3 by rw [← HCE.out, HE.out, HSA.out, HSC.out, HFB.out])
  have HOD := Lib.hid (show frC (s2.extract 1 s2.size) = 3 from frC_odd (by rw [ByteArray.size_extract]; have := Hs27.out; omega) (by rw [ByteArray.size_extract]; have := Hs27.out; omega))
  clear hb27 hbd hbs
  go_wp2_with fail
  refine (implReadFrame_c bt _ a0 a1 (hE.nx hXg)).mono ?_
  rintro e w10 ⟨rfl, hx10⟩
  obtain ⟨⟨p0, p1, p2, p3⟩, Hp⟩ : ∃ p, Hid (frA bt = p) := ⟨_, rfl⟩
  rw [Hp.out, HCE.out]
  rw [show vF (p0, p1, p2, p3) = .agg #[.int .i64 p0, .int .i64 p1, .int .i64 p2, .int .i64 p3] from rfl]
  have hXh := (hXg.trans hx10).alloc (.cells #[.int .i64 p0, .int .i64 p1, .int .i64 p2, .int .i64 p3] 41)
  go_wp2_with fail
  generalize w10.alloc (.cells #[.int .i64 p0, .int .i64 p1, .int .i64 p2, .int .i64 p3] 41) = W10 at *
  refine (implReadFrame_c (s2.extract 1 s2.size) _ a0 a1 (hE.nx hXh)).mono ?_
  rintro e w11 ⟨rfl, hx11⟩
  obtain ⟨⟨g0, g1, g2, g3⟩, Hg⟩ : ∃ p, Hid (frA (s2.extract 1 s2.size) = p) := ⟨_, rfl⟩
  rw [Hg.out, HOD.out]
  rw [show vF (g0, g1, g2, g3) = .agg #[.int .i64 g0, .int .i64 g1, .int .i64 g2, .int .i64 g3] from rfl]
  have hXi := (hXh.trans hx11).alloc (.cells #[.int .i64 g0, .int .i64 g1, .int .i64 g2, .int .i64 g3] 41)
  go_wp2_with fail
  generalize w11.alloc (.cells #[.int .i64 g0, .int .i64 g1, .int .i64 g2, .int .i64 g3] 41) = W11 at *
  by_cases hac : sa = sc
  · subst hac
    cases fb
    · obtain rfl : ce = 3 := by have := HCE2.out; simpa using this
      refine wp_region_plan (.t 0 (.t 1 (.t 2 (.t 3 (.t 5 (.t 6 (.c 4 (.c 7 (.t 8 (.t 9 (.t 10 (.c 11 (.c 12 (.t 13 (.t 14 (.t 15 (.t 16 (.t 17 (.t 18 (.t 19 (.t 20 (.t 21 (.t 23 (.t 24 (.c 22 (.c 25 (.t 26 (.t 27 (.t 28 .e))))))))))))))))))))))))))))) (fun _ => True) (by kernel_rfl) (by kernel_rfl) rfl (by kernel_rfl) (fun _ _ d _ _ h => by cases d <;> exact h) (by exact trivial) ?_
      simp only [psOf, List.getD_cons_zero, List.getD_cons_succ]
      repeat (first | (refine HP.take (v := ?_) (by rfl) ?_ ?_; rotate_left; (· (intro w hSw; (try dsimp only at hSw); go_simp; try with_reducible rfl)); (try simp only [Act.put, List.setIfInBounds_toArray, List.set_cons_zero, List.set_cons_succ])) | (refine HP.skip (by rfl) ?_; (try simp only [Act.put, List.setIfInBounds_toArray, List.set_cons_zero, List.set_cons_succ])))
      refine HP.call ?_
      refine CallStep.mk (by rfl) (fun K hK => ?_)
      go_simp
      refine (implSumOf_c (bt.extract 0 24) _ (by unfold maxLen; omega)).mono ?_; rintro e w' ⟨rfl, rfl⟩; rw [HA.out]
      go_wp2_with fail
      refine hK.out _ _ (by exact trivial) ?_
      clear hK K
      try simp only [Act.put, List.setIfInBounds_toArray, List.set_cons_zero, List.set_cons_succ]
      refine HP.call ?_
      refine CallStep.mk (by rfl) (fun K hK => ?_)
      go_simp
      refine (implSumOf_c (s2.extract 0 24) _ (by unfold maxLen; omega)).mono ?_; rintro e w' ⟨rfl, rfl⟩; rw [HC.out]
      go_wp2_with fail
      refine hK.out _ _ (by exact trivial) ?_
      clear hK K
      try simp only [Act.put, List.setIfInBounds_toArray, List.set_cons_zero, List.set_cons_succ]
      repeat (first | (refine HP.take (v := ?_) (by rfl) ?_ ?_; rotate_left; (· (intro w hSw; (try dsimp only at hSw); go_simp; try with_reducible rfl)); (try simp only [Act.put, List.setIfInBounds_toArray, List.set_cons_zero, List.set_cons_succ])) | (refine HP.skip (by rfl) ?_; (try simp only [Act.put, List.setIfInBounds_toArray, List.set_cons_zero, List.set_cons_succ])))
      refine HP.call ?_
      refine CallStep.mk (by rfl) (fun K hK => ?_)
      go_simp
      refine (frameOf_c bt _ HB27.out HBD.out).mono ?_; rintro e wx ⟨rfl, hxx⟩; rw [show vF (vaT bt 24 0, vaT bt 24 1, vaT bt 24 2, vaT bt 24 3) = .agg #[.int .i64 (vaT bt 24 0 : Nat), .int .i64 (vaT bt 24 1 : Nat), .int .i64 (vaT bt 24 2 : Nat), .int .i64 (vaT bt 24 3 : Nat)] from rfl]
      go_wp2_with fail
      refine hK.out _ _ (by exact trivial) ?_
      clear hK K
      try simp only [Act.put, List.setIfInBounds_toArray, List.set_cons_zero, List.set_cons_succ]
      refine HP.call ?_
      refine CallStep.mk (by rfl) (fun K hK => ?_)
      go_simp
      refine (specFrameOK_c _ _ _ _ _).mono ?_; rintro e wy ⟨rfl, hyy⟩; rw [HFB.out]
      go_wp2_with fail
      refine hK.out _ _ (by exact trivial) ?_
      clear hK K
      try simp only [Act.put, List.setIfInBounds_toArray, List.set_cons_zero, List.set_cons_succ]
      repeat (first | (refine HP.take (v := ?_) (by rfl) ?_ ?_; rotate_left; (· (intro w hSw; (try dsimp only at hSw); go_simp; try with_reducible rfl)); (try simp only [Act.put, List.setIfInBounds_toArray, List.set_cons_zero, List.set_cons_succ])) | (refine HP.skip (by rfl) ?_; (try simp only [Act.put, List.setIfInBounds_toArray, List.set_cons_zero, List.set_cons_succ])))
      refine HP.call ?_
      refine CallStep.mk (by rfl) (fun K hK => ?_)
      go_simp
      refine (implSumOf_c (s2.extract 0 24) _ (by unfold maxLen; omega)).mono ?_; rintro e w' ⟨rfl, rfl⟩; rw [HC.out]
      go_wp2_with fail
      refine hK.out _ _ (by exact trivial) ?_
      clear hK K
      try simp only [Act.put, List.setIfInBounds_toArray, List.set_cons_zero, List.set_cons_succ]
      refine HP.call ?_
      refine CallStep.mk (by rfl) (fun K hK => ?_)
      go_simp
      refine (specSumOf_c (s2.extract 0 24) _ (by unfold maxLen; omega)).mono ?_; rintro e w' ⟨rfl, rfl⟩; rw [HC.out]
      go_wp2_with fail
      refine hK.out _ _ (by exact trivial) ?_
      clear hK K
      try simp only [Act.put, List.setIfInBounds_toArray, List.set_cons_zero, List.set_cons_succ]
      repeat (first | (refine HP.take (v := ?_) (by rfl) ?_ ?_; rotate_left; (· (intro w hSw; (try dsimp only at hSw); go_simp; try with_reducible rfl)); (try simp only [Act.put, List.setIfInBounds_toArray, List.set_cons_zero, List.set_cons_succ])) | (refine HP.skip (by rfl) ?_; (try simp only [Act.put, List.setIfInBounds_toArray, List.set_cons_zero, List.set_cons_succ])))
      refine HP.done ?_
      go_wp2
      go_ret
      exact ⟨rfl, (hXi.drew.trans hxx).trans hyy⟩
    · obtain rfl : ce = 0 := by have := HCE2.out; simpa using this
      refine wp_region_plan (.t 0 (.t 1 (.t 2 (.t 3 (.t 5 (.t 6 (.c 4 (.c 7 (.t 8 (.t 9 (.t 10 (.c 11 (.c 12 (.t 13 (.t 14 (.t 15 (.t 16 (.t 17 (.t 18 (.t 19 (.t 20 (.t 21 (.t 23 (.t 24 (.c 22 (.c 25 (.t 26 (.t 27 (.t 28 .e))))))))))))))))))))))))))))) (fun _ => True) (by kernel_rfl) (by kernel_rfl) rfl (by kernel_rfl) (fun _ _ d _ _ h => by cases d <;> exact h) (by exact trivial) ?_
      simp only [psOf, List.getD_cons_zero, List.getD_cons_succ]
      repeat (first | (refine HP.take (v := ?_) (by rfl) ?_ ?_; rotate_left; (· (intro w hSw; (try dsimp only at hSw); go_simp; try with_reducible rfl)); (try simp only [Act.put, List.setIfInBounds_toArray, List.set_cons_zero, List.set_cons_succ])) | (refine HP.skip (by rfl) ?_; (try simp only [Act.put, List.setIfInBounds_toArray, List.set_cons_zero, List.set_cons_succ])))
      refine HP.call ?_
      refine CallStep.mk (by rfl) (fun K hK => ?_)
      go_simp
      refine (implSumOf_c (bt.extract 0 24) _ (by unfold maxLen; omega)).mono ?_; rintro e w' ⟨rfl, rfl⟩; rw [HA.out]
      go_wp2_with fail
      refine hK.out _ _ (by exact trivial) ?_
      clear hK K
      try simp only [Act.put, List.setIfInBounds_toArray, List.set_cons_zero, List.set_cons_succ]
      refine HP.call ?_
      refine CallStep.mk (by rfl) (fun K hK => ?_)
      go_simp
      refine (implSumOf_c (s2.extract 0 24) _ (by unfold maxLen; omega)).mono ?_; rintro e w' ⟨rfl, rfl⟩; rw [HC.out]
      go_wp2_with fail
      refine hK.out _ _ (by exact trivial) ?_
      clear hK K
      try simp only [Act.put, List.setIfInBounds_toArray, List.set_cons_zero, List.set_cons_succ]
      repeat (first | (refine HP.take (v := ?_) (by rfl) ?_ ?_; rotate_left; (· (intro w hSw; (try dsimp only at hSw); go_simp; try with_reducible rfl)); (try simp only [Act.put, List.setIfInBounds_toArray, List.set_cons_zero, List.set_cons_succ])) | (refine HP.skip (by rfl) ?_; (try simp only [Act.put, List.setIfInBounds_toArray, List.set_cons_zero, List.set_cons_succ])))
      refine HP.call ?_
      refine CallStep.mk (by rfl) (fun K hK => ?_)
      go_simp
      refine (frameOf_c bt _ HB27.out HBD.out).mono ?_; rintro e wx ⟨rfl, hxx⟩; rw [show vF (vaT bt 24 0, vaT bt 24 1, vaT bt 24 2, vaT bt 24 3) = .agg #[.int .i64 (vaT bt 24 0 : Nat), .int .i64 (vaT bt 24 1 : Nat), .int .i64 (vaT bt 24 2 : Nat), .int .i64 (vaT bt 24 3 : Nat)] from rfl]
      go_wp2_with fail
      refine hK.out _ _ (by exact trivial) ?_
      clear hK K
      try simp only [Act.put, List.setIfInBounds_toArray, List.set_cons_zero, List.set_cons_succ]
      refine HP.call ?_
      refine CallStep.mk (by rfl) (fun K hK => ?_)
      go_simp
      refine (specFrameOK_c _ _ _ _ _).mono ?_; rintro e wy ⟨rfl, hyy⟩; rw [HFB.out]
      go_wp2_with fail
      refine hK.out _ _ (by exact trivial) ?_
      clear hK K
      try simp only [Act.put, List.setIfInBounds_toArray, List.set_cons_zero, List.set_cons_succ]
      repeat (first | (refine HP.take (v := ?_) (by rfl) ?_ ?_; rotate_left; (· (intro w hSw; (try dsimp only at hSw); go_simp; try with_reducible rfl)); (try simp only [Act.put, List.setIfInBounds_toArray, List.set_cons_zero, List.set_cons_succ])) | (refine HP.skip (by rfl) ?_; (try simp only [Act.put, List.setIfInBounds_toArray, List.set_cons_zero, List.set_cons_succ])))
      refine HP.call ?_
      refine CallStep.mk (by rfl) (fun K hK => ?_)
      go_simp
      refine (implSumOf_c (s2.extract 0 24) _ (by unfold maxLen; omega)).mono ?_; rintro e w' ⟨rfl, rfl⟩; rw [HC.out]
      go_wp2_with fail
      refine hK.out _ _ (by exact trivial) ?_
      clear hK K
      try simp only [Act.put, List.setIfInBounds_toArray, List.set_cons_zero, List.set_cons_succ]
      refine HP.call ?_
      refine CallStep.mk (by rfl) (fun K hK => ?_)
      go_simp
      refine (specSumOf_c (s2.extract 0 24) _ (by unfold maxLen; omega)).mono ?_; rintro e w' ⟨rfl, rfl⟩; rw [HC.out]
      go_wp2_with fail
      refine hK.out _ _ (by exact trivial) ?_
      clear hK K
      try simp only [Act.put, List.setIfInBounds_toArray, List.set_cons_zero, List.set_cons_succ]
      repeat (first | (refine HP.take (v := ?_) (by rfl) ?_ ?_; rotate_left; (· (intro w hSw; (try dsimp only at hSw); go_simp; try with_reducible rfl)); (try simp only [Act.put, List.setIfInBounds_toArray, List.set_cons_zero, List.set_cons_succ])) | (refine HP.skip (by rfl) ?_; (try simp only [Act.put, List.setIfInBounds_toArray, List.set_cons_zero, List.set_cons_succ])))
      refine HP.done ?_
      go_wp2
      go_ret
      exact ⟨rfl, (hXi.drew.trans hxx).trans hyy⟩
  · have hne : (sa == sc) = false := by simp [hac]
    obtain rfl : ce = 3 := by have := HCE2.out; simpa [hac] using this
    refine wp_region_plan (.t 0 (.t 1 (.t 2 (.t 3 (.t 5 (.t 6 (.c 4 (.c 7 (.t 8 (.t 9 (.t 10 (.t 11 (.t 12 (.t 13 (.t 14 (.t 15 (.t 16 (.t 17 (.t 18 (.t 19 (.t 20 (.t 21 (.t 23 (.t 24 (.c 22 (.c 25 (.t 26 (.t 27 (.t 28 .e))))))))))))))))))))))))))))) (fun _ => True) (by kernel_rfl) (by kernel_rfl) rfl (by kernel_rfl) (fun _ _ d _ _ h => by cases d <;> exact h) (by exact trivial) ?_
    simp only [psOf, List.getD_cons_zero, List.getD_cons_succ]
    repeat (first | (refine HP.take (v := ?_) (by rfl) ?_ ?_; rotate_left; (· (intro w hSw; (try dsimp only at hSw); go_simp; try with_reducible rfl)); (try simp only [Act.put, List.setIfInBounds_toArray, List.set_cons_zero, List.set_cons_succ])) | (refine HP.skip (by rfl) ?_; (try simp only [Act.put, List.setIfInBounds_toArray, List.set_cons_zero, List.set_cons_succ])))
    refine HP.call ?_
    refine CallStep.mk (by rfl) (fun K hK => ?_)
    go_simp
    refine (implSumOf_c (bt.extract 0 24) _ (by unfold maxLen; omega)).mono ?_; rintro e w' ⟨rfl, rfl⟩; rw [HA.out]
    go_wp2_with fail
    refine hK.out _ _ (by exact trivial) ?_
    clear hK K
    try simp only [Act.put, List.setIfInBounds_toArray, List.set_cons_zero, List.set_cons_succ]
    refine HP.call ?_
    refine CallStep.mk (by rfl) (fun K hK => ?_)
    go_simp
    refine (implSumOf_c (s2.extract 0 24) _ (by unfold maxLen; omega)).mono ?_; rintro e w' ⟨rfl, rfl⟩; rw [HC.out]
    go_wp2_with fail
    refine hK.out _ _ (by exact trivial) ?_
    clear hK K
    try simp only [Act.put, List.setIfInBounds_toArray, List.set_cons_zero, List.set_cons_succ]
    repeat (first | (refine HP.take (v := ?_) (by rfl) ?_ ?_; rotate_left; (· (intro w hSw; (try dsimp only at hSw); go_simp; try with_reducible rfl)); (try simp only [Act.put, List.setIfInBounds_toArray, List.set_cons_zero, List.set_cons_succ])) | (refine HP.skip (by rfl) ?_; (try simp only [Act.put, List.setIfInBounds_toArray, List.set_cons_zero, List.set_cons_succ])))
    refine HP.call ?_
    refine CallStep.mk (by rfl) (fun K hK => ?_)
    go_simp
    refine (implSumOf_c (s2.extract 0 24) _ (by unfold maxLen; omega)).mono ?_; rintro e w' ⟨rfl, rfl⟩; rw [HC.out]
    go_wp2_with fail
    refine hK.out _ _ (by exact trivial) ?_
    clear hK K
    try simp only [Act.put, List.setIfInBounds_toArray, List.set_cons_zero, List.set_cons_succ]
    refine HP.call ?_
    refine CallStep.mk (by rfl) (fun K hK => ?_)
    go_simp
    refine (specSumOf_c (s2.extract 0 24) _ (by unfold maxLen; omega)).mono ?_; rintro e w' ⟨rfl, rfl⟩; rw [HC.out]
    go_wp2_with fail
    refine hK.out _ _ (by exact trivial) ?_
    clear hK K
    try simp only [Act.put, List.setIfInBounds_toArray, List.set_cons_zero, List.set_cons_succ]
    repeat (first | (refine HP.take (v := ?_) (by rfl) ?_ ?_; rotate_left; (· (intro w hSw; (try dsimp only at hSw); go_simp; try with_reducible rfl)); (try simp only [Act.put, List.setIfInBounds_toArray, List.set_cons_zero, List.set_cons_succ])) | (refine HP.skip (by rfl) ?_; (try simp only [Act.put, List.setIfInBounds_toArray, List.set_cons_zero, List.set_cons_succ])))
    refine HP.done ?_
    go_wp2
    go_ret
    exact ⟨rfl, hXi.drew⟩
end Go.Proofs.YtehahodomfbpjaaDoor
/- From the listed errors to what is known of them in memory. Conditions: the package's errors read as the program's text lays them. -/
namespace Go.Proofs.YtehahodomfbpjaaDoor
open Go.ChangeShapes Go.WideShapes Go.ChangeAt Go.WideMaps Go.WideElems Go.RowKit
theorem own : ownKnob Tryd.prog.godebug = none := by kernel_rfl
theorem laidOut : laidOutB Tryd.prog = true := by kernel_rfl
theorem gLong : Tryd.prog.globalNamed "loop.example/g00608/impl.errTextLong" = some 1 := by kernel_rfl
theorem gForm : Tryd.prog.globalNamed "loop.example/g00608/impl.errTextForm" = some 0 := by kernel_rfl
theorem tLong : (Tryd.prog.globals[1]?).map (·.type) = some 77 := by kernel_rfl
theorem tForm : (Tryd.prog.globals[0]?).map (·.type) = some 77 := by kernel_rfl
theorem star : "*" ++ "errors.errorString" = "*errors.errorString" := by decide
theorem rowE (u : TypeId) (h : Tryd.prog.typeName? 3 u = some "*errors.errorString") : u = 152 :=
  typeName_ptr_named (nm := "errors.errorString") (by rw [star]; kernel_rfl) (by kernel_rfl) (by decide) u (by rw [star]; exact h)
theorem cellsE : Tryd.prog.cellsOf 174 = 1 := by kernel_rfl
theorem cellsS : Tryd.prog.cellsOf 9 = 1 := by kernel_rfl

def laidL : List (String × DataW Unit) := [("loop.example/g00608/impl.errTextLong", Rows.laid_loop_example_g00608_impl_errTextLong), ("loop.example/g00608/impl.errTextForm", Rows.laid_loop_example_g00608_impl_errTextForm)]
theorem door_met (os : Os) (args : Array Value) : laidMetH Tryd.prog laidL ((World.doorLaid Tryd.prog 72 os).forCall (fun _ _ => 0) ⟨#[], args, []⟩).memory :=
  laidMetH_of_parts3 (fuel := 8) (laidMet_of_run' 8 (by kernel_rfl) (by kernel_rfl)) (by kernel_rfl) (by kernel_rfl)
theorem of_laid {W : World} (h : laidMetH Tryd.prog laidL W) : ∃ a0 a1, Er W a0 a1 := by
  rw [MakeChecks.laidMetH_plain _ _ _ (by kernel_rfl)] at h
  obtain ⟨a1, a0, s1, s0, c1, c0, t1, t0, hv1, hv0, _, _, _, _, _, _, hne, hb1, hb0⟩ := laid_sentinels2 h gLong tLong gForm tForm Tryd.underlying77 rowE Tryd.underlying152 Tryd.underlying174 rfl rfl Tryd.underlying9 cellsE cellsS
  exact ⟨a0, a1, World.var?_cell gForm hv0 0, World.var?_cell gLong hv1 0, hne.symm, ⟨c0, t0, hb0⟩, c1, t1, hb1⟩
end Go.Proofs.YtehahodomfbpjaaDoor
