/-
  Drawn segments.
  Conditions: the code can be read, and holds at most 1048576 bytes.
-/
import Derived.Test.YtiocbppldpogpaaDoorCdc
namespace Go.Proofs.YtiocbppldpogpaaDoor
set_option linter.unusedVariables false
open Go.RowKit

theorem owns_rg {w w' : World} {B g n : Nat} {v : Value} {xs : List Value} (h : w.ownsRow B 66 3 v n xs) (hr : Rg g (g + 1) w w') (hg : g < B) : w'.ownsRow B 66 3 v n xs := by
  refine h.kept (row := some g) ⟨hr.os, hr.tape, hr.output, hr.size, fun i hi hn => hr.block i hi (by have : i ≠ g := fun e => hn (by rw [e]); omega)⟩ ?_
  exact .inr (fun e => by have := (h.lt g e).1; omega)
theorem Rg.grown8 {lo hi : Nat} {a w w' : World} {row : Option Nat} (h : Rg lo hi a w) (hg : w.grownBy w' row) (hrow : ∀ k, row = some k → a.heap.size ≤ k) : Rg lo hi a w' :=
  ⟨hg.os.trans h.os, hg.tape.trans h.tape, hg.output.trans h.output, Nat.le_trans h.size hg.size, fun k hk hr => (hg.block k (Nat.lt_of_lt_of_le hk h.size) (fun e => by have := hrow k e.symm; omega)).trans (h.block k hk hr)⟩
theorem SrcR.grown {w w' : World} {row : Option Nat} {g n c k : Nat} {A : Option Addr} (h : SrcR w g A n c k) (hg : w.grownBy w' row) (hne : some g ≠ row) : SrcR w' g A n c k := by
  obtain ⟨a, sd, h1, h2, h3⟩ := h
  unfold Src at h3
  exact ⟨a, sd, h1, h2, h3.grown hg hne⟩
theorem SrcR.far8 {w : World} {g n c k : Nat} {A : Option Addr} (h : SrcR w g A n c k) {p : Addr} (hp : g ≠ p.block) (v : Value) : SrcR (w.setCell p v) g A n c k := by
  obtain ⟨a, sd, h1, h2, h3⟩ := h
  unfold Src at h3
  exact ⟨a, sd, h1, h2, h3.far hp v⟩
theorem chsV_app (cs : List Chg) (c : Chg) : chsV (cs ++ [c]) = chsV cs ++ chV c := by unfold chsV; rw [List.flatMap_append]; simp
/-- Right changes, of blocks below k. -/
def UpTo (cs : List Chg) (k : Nat) : Prop := chsB cs = true ∧ (∀ j, j < cs.length → (cs.getD j chZ).1 < (k : Int)) ∧ cs.length ≤ k
theorem getD_app {cs : List Chg} {c : Chg} {j : Nat} (h : j < cs.length) : (cs ++ [c]).getD j chZ = cs.getD j chZ := by
  rw [List.getD_eq_getElem?_getD, List.getD_eq_getElem?_getD, List.getElem?_append_left h]
theorem getD_end (cs : List Chg) (c : Chg) : (cs ++ [c]).getD cs.length chZ = c := by
  rw [List.getD_eq_getElem?_getD, List.getElem?_append_right (Nat.le_refl _)]; simp
theorem chs_more {cs : List Chg} {k x y : Nat} (h : UpTo cs k) (hk : k < 8) (hx : x < 90) (hy : y < 90) : UpTo (cs ++ [((k : Int), (x : Int), (y : Int))]) (k + 1) := by
  obtain ⟨h1, h2, h3⟩ := h
  have hl : (cs ++ [((k : Int), (x : Int), (y : Int))]).length = cs.length + 1 := by simp
  refine ⟨OkTo.all (fun j hj => ?_), fun j hj => ?_, by rw [hl]; omega⟩
  · rw [hl] at hj
    by_cases hj' : j < cs.length
    · have := chsB_to h1 j hj'
      unfold okCh at this ⊢
      rw [getD_app hj', getD_app (by omega)]
      exact this
    · obtain rfl : j = cs.length := by omega
      unfold okCh chB inB
      rw [getD_end]
      by_cases h0 : cs.length = 0
      · simp [h0]; omega
      · have := h2 (cs.length - 1) (by omega)
        rw [getD_app (by omega)]
        rw [List.getD_eq_getElem?_getD] at this
        simp; omega
  · rw [hl] at hj
    by_cases hj' : j < cs.length
    · rw [getD_app hj']; have := h2 j hj'; omega
    · obtain rfl : j = cs.length := by omega
      rw [getD_end]; show (k : Int) < _; omega
def SegDr (w : World) (g gG : Nat) (A : Option Addr) (n c : Nat) (f t m : Int) (i : Value) (wr : World) : Prop :=
  ∃ (k : Nat) (v : Value) (cs : List Chg), k ≤ 8 ∧ i = .int .i64 k ∧ Box wr gG 25 #[.int .i64 f, .int .i64 t, .int .i64 m, v] ∧ wr.ownsRow (w.heap.size + 1) 66 3 v cs.length (chsV cs) ∧
    Hid (UpTo cs k) ∧ SrcR wr g A n c (9 + 9 * k) ∧ Rg g (g + 1) w wr ∧ Box wr w.heap.size 25 #[.int .i64 0, .int .i64 0, .int .i64 0, .slice none 0 0]
theorem chanceR_c (m g : Nat) (A : Option Addr) (n c k B : Nat) (ys : List Nat) (w : World) (hm : 2 ≤ m) (hm2 : m ≤ 256) (hb : SrcR w g A n c k) (h : U8s w B A n ys) (hB : B ≤ g) (hn : n ≤ 1048576) (hk : k + 3 ≤ 1048576) :
    Calls Tryd.prog 50 #[.pointer (some ⟨g, 0, none⟩), .int .i64 m] w fun e w' => ∃ b : Bool, e = .returned (.bool b) ∧ SrcR w' g A n c (k + 3) ∧ Rg g (g + 1) w w' := by
  obtain ⟨a, sd, h1, h2, h3⟩ := hb
  obtain ⟨⟨b, a', sd'⟩, HP⟩ : ∃ x, byteP ys a sd = x := ⟨_, rfl⟩
  obtain ⟨k1, k2, k3⟩ := byteP_lt h.2.1 h2 HP
  exact (chance_c m g A n c a sd B ys b a' sd' w hm hm2 h3 h hB hn (by omega) h2 HP).mono fun e w' ⟨he, hs, hr⟩ => ⟨_, he, ⟨a', sd', by omega, k3, hs⟩, hr⟩
set_option maxRecDepth 100000 in
set_option maxHeartbeats 8000000 in
theorem seg_c (g : Nat) (A : Option Addr) (n c B : Nat) (ys : List Nat) (w : World) (hb : SrcR w g A n c 0) (h : U8s w B A n ys) (hB : B ≤ g) (hn : n ≤ 1048576) :
    Calls Tryd.prog 29 #[.pointer (some ⟨g, 0, none⟩)] w fun e w' => ∃ (f t m : Nat) (cs : List Chg) (A2 : Option Addr) (c2 : Nat), e = .returned (.agg #[.int .i64 f, .int .i64 t, .int .i64 m, .slice A2 cs.length c2]) ∧ segB f t m cs = true ∧ cs.length ≤ 8 ∧ Sl w' (w.heap.size + 1) A2 66 (cs.length * 3) (chAt cs) ∧ Rg g (g + 1) w w' := by
  obtain ⟨i0, hi0, hz0', hz1, hz2⟩ := info_parts info_chg
  have hz0 := hb.lt
  have u0 := h
  have b0 := Box.new w 25 #[.int .i64 0, .int .i64 0, .int .i64 0, .slice none 0 0]
  have hx0 := (Nx.refl w).alloc (.cells #[.int .i64 0, .int .i64 0, .int .i64 0, .slice none 0 0] 25)
  have s0 := hb.nx hx0
  have r0 : Rg g (g + 1) w (w.alloc (.cells #[.int .i64 0, .int .i64 0, .int .i64 0, .slice none 0 0] 25)) := Rg.of_nx hx0
  clear hb h hx0
  go_enter Tryd.func29, Tryd.ntmps29
  go_wp2_with fail
  generalize w.alloc (.cells #[.int .i64 0, .int .i64 0, .int .i64 0, .slice none 0 0] 25) = W at *
  refine (nextR_c 9 g A n c 0 B ys _ (by omega) (by omega) s0 (u0.rg r0 hB (Nat.le_of_lt hz0)) hB hn (by omega)).mono ?_
  rintro e w1 ⟨f, rfl, hf, s1, r1⟩
  have b1 := b0.rg r1 (.inr (by omega))
  have t1 := r0.trans r1
  clear b0 r0 r1 s0
  go_wp2_with fail
  refine (nextR_c 3 g A n c (0 + 3) B ys _ (by omega) (by omega) s1 (u0.rg t1 hB (Nat.le_of_lt hz0)) hB hn (by omega)).mono ?_
  rintro e w2 ⟨d, rfl, hd, s2, r2⟩
  have b2 := b1.rg r2 (.inr (by omega))
  have t2 := t1.trans r2
  clear b1 t1 r2 s1
  go_wp2_with fail
  refine (nextR_c 200 g A n c (0 + 3 + 3) B ys _ (by omega) (by omega) s2 (u0.rg t2 hB (Nat.le_of_lt hz0)) hB hn (by omega)).mono ?_
  rintro e w3 ⟨m, rfl, hm, s3, r3⟩
  have b3 := b2.rg r3 (.inr (by omega))
  have t3 := t2.trans r3
  clear b2 t2 r3 s2
  have hw3 := b3.lt
  go_wp2
  have bg0 : Box ((w3.alloc (.cells #[] 66)).alloc (.cells #[.int .i64 f, .int .i64 ((f : Int) + 1 + (d : Int)), .int .i64 m, .slice (some ⟨w3.heap.size, 0, none⟩) 0 0] 25)) (w3.heap.size + 1) 25 #[.int .i64 f, .int .i64 ((f : Int) + 1 + (d : Int)), .int .i64 m, .slice (some ⟨w3.heap.size, 0, none⟩) 0 0] := by
    have := Box.new (w3.alloc (.cells #[] 66)) 25 #[.int .i64 f, .int .i64 ((f : Int) + 1 + (d : Int)), .int .i64 m, .slice (some ⟨w3.heap.size, 0, none⟩) 0 0]; simp only [World.size_alloc] at this; exact this
  have o0 : World.ownsRow ((w3.alloc (.cells #[] 66)).alloc (.cells #[.int .i64 f, .int .i64 ((f : Int) + 1 + (d : Int)), .int .i64 m, .slice (some ⟨w3.heap.size, 0, none⟩) 0 0] 25)) (w.heap.size + 1) 66 3 (.slice (some ⟨w3.heap.size, 0, none⟩) 0 0) 0 [] := (owns_new03 w3 (by omega)).alloc (.cells #[.int .i64 f, .int .i64 ((f : Int) + 1 + (d : Int)), .int .i64 m, .slice (some ⟨w3.heap.size, 0, none⟩) 0 0] 25)
  have hx3 := ((Nx.refl w3).alloc (.cells #[] 66)).alloc (.cells #[.int .i64 f, .int .i64 ((f : Int) + 1 + (d : Int)), .int .i64 m, .slice (some ⟨w3.heap.size, 0, none⟩) 0 0] 25)
  have s4 := s3.nx hx3
  have b4 := b3.nx hx3
  have r4 := t3.trans (Rg.of_nx hx3)
  clear s3 b3 t3 hx3
  generalize (w3.alloc (.cells #[] 66)).alloc (.cells #[.int .i64 f, .int .i64 ((f : Int) + 1 + (d : Int)), .int .i64 m, .slice (some ⟨w3.heap.size, 0, none⟩) 0 0] 25) = w4 at *
  obtain ⟨gG, HgG⟩ : ∃ x, Hid (w3.heap.size + 1 = x) := ⟨_, rfl⟩
  rw [HgG.out] at bg0 ⊢
  have hgG : w.heap.size + 1 ≤ gG := by have := HgG.out; omega
  obtain ⟨v9, Hv9⟩ : ∃ x, Hid (Value.slice (some ⟨w3.heap.size, 0, none⟩) 0 0 = x) := ⟨_, rfl⟩
  rw [Hv9.out] at bg0 o0
  obtain ⟨t9, Ht9⟩ : ∃ t : Nat, Hid ((f : Int) + 1 + (d : Int) = (t : Int)) := ⟨f + 1 + d, Lib.hid (by omega)⟩
  rw [Ht9.out] at bg0
  go_loopw [5] (fun i wr => SegDr w g gG A n c f t9 m i wr) (fun i _ => 8 - (intOf i).toNat)
  case atStart => exact ⟨0, v9, [], by omega, rfl, bg0, o0, Lib.hid ⟨rfl, fun j hj => absurd hj (by simp), by simp⟩, s4.more (by omega), r4, b4⟩
  case round =>
    obtain ⟨k, v, cs, hk, rfl, bg, o, H, s, r, br⟩ := hrel
    clear bg0 o0 s4 b4 r4
    have hcl : cs.length ≤ 8 := by have := H.out.2.2; omega
    by_cases hlt : k < 8
    · have hlt' : (k : Int) < 8 := by omega
      go_wp2_with fail
      refine (chanceR_c 4 g A n c (9 + 9 * k) B ys _ (by omega) (by omega) s (u0.rg r hB (Nat.le_of_lt hz0)) hB hn (by omega)).mono ?_
      rintro e wc ⟨ch, rfl, sc, qc⟩
      have rc := r.trans qc
      have bgc := bg.rg qc (.inr (by omega))
      have brc := br.rg qc (.inr (by omega))
      have oc := owns_rg o qc (by omega)
      clear s r bg br o qc
      cases ch with
      | false =>
        go_wp2
        go_roundw
        case rel => exact ⟨k + 1, v, cs, by omega, by go_num, bgc, oc, Lib.hid ⟨H.out.1, fun j hj => by have := H.out.2.1 j hj; omega, by have := H.out.2.2; omega⟩, sc.more (by omega), rc, brc⟩
        case measure => simp [intOf]; omega
      | true =>
        have sd := sc.nx (Nx.refl wc).drew
        have rd := rc.trans (Rg.of_nx (Nx.refl wc).drew)
        have bgd := bgc.nx (Nx.refl wc).drew
        have brd := brc.nx (Nx.refl wc).drew
        have od := owns_nx3 oc (Nx.refl wc).drew
        clear sc rc bgc brc oc
        go_wp2_with fail
        refine wp_region_plan (.t 0 (.t 2 (.t 3 (.t 5 (.b 1 (.c 4 (.c 6 (.t 7 (.c 8 (.c 9 (.t 10 (.c 11 .e))))))) 4 (.b 1 (.c 6 (.t 7 (.c 8 (.c 9 (.t 10 (.c 11 .e)))))) 6 (.t 7 (.b 1 (.c 8 (.c 9 (.t 10 (.c 11 .e)))) 8 (.c 1 (.c 9 (.t 10 (.c 11 .e)))))))))))) (fun _ => True) (by kernel_rfl) (by kernel_rfl) rfl (by kernel_rfl) (fun _ _ d _ _ h => by cases d <;> exact h) (by exact True.intro) ?_
        simp only [psOf, List.getD_cons_zero, List.getD_cons_succ]
        repeat (first | (refine HP.take (v := ?_) (by rfl) ?_ ?_; rotate_left; (· (intro w hSw; (try dsimp only at hSw); go_simp; try with_reducible rfl)); (try simp only [Act.put, List.setIfInBounds_toArray, List.set_cons_zero, List.set_cons_succ])) | (refine HP.skip (by rfl) ?_; (try simp only [Act.put, List.setIfInBounds_toArray, List.set_cons_zero, List.set_cons_succ])))
        change HP _ _ _ _ _ _ wc.drew
        generalize wc.drew = wd at *
        refine HP.both ?_ ?_
        · obtain ⟨_, _, _, c3⟩ := bgd.d4
          refine CallStep.mk (by rfl) (fun K hK => ?_)
          go_simp
          refine hK.out _ _ (by exact True.intro) ?_
          clear hK K
          try simp only [Act.put, List.setIfInBounds_toArray, List.set_cons_zero, List.set_cons_succ]
          refine HP.call ?_
          refine CallStep.mk (by rfl) (fun K hK => ?_)
          go_simp
          refine (nextR_c 90 g A n c (9 + 9 * k + 3) B ys _ (by omega) (by omega) sd (u0.rg rd hB (Nat.le_of_lt hz0)) hB hn (by omega)).mono ?_
          rintro e w5 ⟨x, rfl, hx, s5, q5⟩
          go_wp2_with fail
          refine hK.out _ _ (by exact True.intro) ?_
          clear hK K
          try simp only [Act.put, List.setIfInBounds_toArray, List.set_cons_zero, List.set_cons_succ]
          have r5 := rd.trans q5
          have bg5 := bgd.rg q5 (.inr (by omega))
          have br5 := brd.rg q5 (.inr (by omega))
          have o5 := owns_rg od q5 (by omega)
          refine HP.call ?_
          refine CallStep.mk (by rfl) (fun K hK => ?_)
          go_simp
          refine (nextR_c 90 g A n c (9 + 9 * k + 3 + 3) B ys _ (by omega) (by omega) s5 (u0.rg r5 hB (Nat.le_of_lt hz0)) hB hn (by omega)).mono ?_
          rintro e w6 ⟨y, rfl, hy, s6, q6⟩
          go_wp2_with fail
          refine hK.out _ _ (by exact True.intro) ?_
          clear hK K
          try simp only [Act.put, List.setIfInBounds_toArray, List.set_cons_zero, List.set_cons_succ]
          have r6 := r5.trans q6
          have bg6 := bg5.rg q6 (.inr (by omega))
          have br6 := br5.rg q6 (.inr (by omega))
          have o6 := owns_rg o5 q6 (by omega)
          repeat (first | (refine HP.take (v := ?_) (by rfl) ?_ ?_; rotate_left; (· (intro w hSw; (try dsimp only at hSw); go_simp; try with_reducible rfl)); (try simp only [Act.put, List.setIfInBounds_toArray, List.set_cons_zero, List.set_cons_succ])) | (refine HP.skip (by rfl) ?_; (try simp only [Act.put, List.setIfInBounds_toArray, List.set_cons_zero, List.set_cons_succ])))
          refine HP.call ?_
          refine CallStep.mk (by rfl) (fun K hK => ?_)
          go_simp
          refine hK.out _ _ (by exact True.intro) ?_
          clear hK K
          try simp only [Act.put, List.setIfInBounds_toArray, List.set_cons_zero, List.set_cons_succ]
          have bz := bg6.alloc (.cells #[.int .i64 (k : Int), .int .i64 x, .int .i64 y] 66)
          have brz := br6.alloc (.cells #[.int .i64 (k : Int), .int .i64 x, .int .i64 y] 66)
          have oz := o6.alloc (.cells #[.int .i64 (k : Int), .int .i64 x, .int .i64 y] 66)
          have sz := s6.nx ((Nx.refl w6).alloc (.cells #[.int .i64 (k : Int), .int .i64 x, .int .i64 y] 66))
          have rz := r6.trans (Rg.of_nx ((Nx.refl w6).alloc (.cells #[.int .i64 (k : Int), .int .i64 x, .int .i64 y] 66)))
          have HNW := Lib.hid (news3 w6 66 (.int .i64 (k : Int)) (.int .i64 x) (.int .i64 y))
          have HO : Hid (∀ u ∈ [Value.int .i64 (k : Int), .int .i64 x, .int .i64 y], u.oneCell' = true) := Lib.hid (fun u hu => by simp only [List.mem_cons, List.not_mem_nil, or_false] at hu; rcases hu with rfl | rfl | rfl <;> rfl)
          have hw6 := bg6.lt
          change HP _ _ _ _ _ _ (w6.alloc (.cells #[.int .i64 (k : Int), .int .i64 x, .int .i64 y] 66))
          have hzs : w6.heap.size ≤ (w6.alloc (.cells #[.int .i64 (k : Int), .int .i64 x, .int .i64 y] 66)).heap.size := by simp
          generalize w6.alloc (.cells #[.int .i64 (k : Int), .int .i64 x, .int .i64 y] 66) = wz at *
          refine HP.call ?_
          refine CallStep.mk (by rfl) (fun K hK => ?_)
          refine wp_append_own wz _ _ 23 rfl (w.heap.size + 1) 66 i0 _ 3 24 Tryd.underlying23 hi0 hz0' hz1 hz2 rfl (by omega) v cs.length _ rfl oz ⟨w6.heap.size, 0, none⟩ 1 1 [.int .i64 (k : Int), .int .i64 x, .int .i64 y] rfl rfl HNW.out HO.out (by unfold maxLen; omega) (by omega) (by omega) ?_
          intro v2 w2 hw2 hg2 _
          obtain ⟨g2, cp2, rfl, _, _⟩ := hw2.form (by omega)
          have bg2 := bz.grown hg2 (owns_ne oz bz)
          have br2 := brz.grown hg2 (owns_ne oz brz)
          have s2 := sz.grown hg2 (fun e => by have := (oz.lt g e.symm).1; omega)
          have r2 := rz.grown8 hg2 (fun k hk => by have := (oz.lt k hk).1; omega)
          refine hK.out _ _ True.intro ?_
          clear hK K
          try simp only [Act.put, List.setIfInBounds_toArray, List.set_cons_zero, List.set_cons_succ]
          repeat (first | (refine HP.take (v := ?_) (by rfl) ?_ ?_; rotate_left; (· (intro w hSw; (try dsimp only at hSw); go_simp; try with_reducible rfl)); (try simp only [Act.put, List.setIfInBounds_toArray, List.set_cons_zero, List.set_cons_succ])) | (refine HP.skip (by rfl) ?_; (try simp only [Act.put, List.setIfInBounds_toArray, List.set_cons_zero, List.set_cons_succ])))
          obtain ⟨_, _, _, d3⟩ := bg2.d4
          have f3 := bg2.frozen 3
          refine HP.call ?_
          refine CallStep.mk (by rfl) (fun K hK => ?_)
          go_simp
          refine hK.out _ _ (by exact True.intro) ?_
          clear hK K
          try simp only [Act.put, List.setIfInBounds_toArray, List.set_cons_zero, List.set_cons_succ]
          refine HP.done ?_
          have bg3 := bg2.set 3 (.slice (some ⟨g2, 0, none⟩) (cs.length + 1) cp2)
          have o3 := owns_far (u := (.slice (some ⟨g2, 0, none⟩) (cs.length + 1) cp2)) (i := 3) hw2 bg2
          have br3 := br2.far (p := ⟨gG, 3, none⟩) (by simp; omega) (.slice (some ⟨g2, 0, none⟩) (cs.length + 1) cp2)
          have s3 := (s2.more (k' := 9 + 9 * (k + 1)) (by omega)).far8 (p := ⟨gG, 3, none⟩) (by simp; omega) (.slice (some ⟨g2, 0, none⟩) (cs.length + 1) cp2)
          have r3 := r2.setNew8 (p := ⟨gG, 3, none⟩) (by simp; omega) (.slice (some ⟨g2, 0, none⟩) (cs.length + 1) cp2)
          clear d3 f3
          go_wp2
          go_roundw
          case rel =>
            refine ⟨k + 1, _, cs ++ [((k : Int), (x : Int), (y : Int))], by omega, by go_num, bg3, ?_, Lib.hid (chs_more H.out (by omega) (by omega) (by omega)), s3, r3, br3⟩
            rw [List.length_append, chsV_app]; exact o3
          case measure => simp [intOf]; omega
        · refine CallStep.mk (by rfl) (fun K hK => ?_)
          go_simp
          refine (nextR_c 90 g A n c (9 + 9 * k + 3) B ys _ (by omega) (by omega) sd (u0.rg rd hB (Nat.le_of_lt hz0)) hB hn (by omega)).mono ?_
          rintro e w5 ⟨x, rfl, hx, s5, q5⟩
          go_wp2_with fail
          refine hK.out _ _ (by exact True.intro) ?_
          clear hK K
          try simp only [Act.put, List.setIfInBounds_toArray, List.set_cons_zero, List.set_cons_succ]
          have r5 := rd.trans q5
          have bg5 := bgd.rg q5 (.inr (by omega))
          have br5 := brd.rg q5 (.inr (by omega))
          have o5 := owns_rg od q5 (by omega)
          refine HP.both ?_ ?_
          · obtain ⟨_, _, _, c3⟩ := bg5.d4
            refine CallStep.mk (by rfl) (fun K hK => ?_)
            go_simp
            refine hK.out _ _ (by exact True.intro) ?_
            clear hK K
            try simp only [Act.put, List.setIfInBounds_toArray, List.set_cons_zero, List.set_cons_succ]
            refine HP.call ?_
            refine CallStep.mk (by rfl) (fun K hK => ?_)
            go_simp
            refine (nextR_c 90 g A n c (9 + 9 * k + 3 + 3) B ys _ (by omega) (by omega) s5 (u0.rg r5 hB (Nat.le_of_lt hz0)) hB hn (by omega)).mono ?_
            rintro e w6 ⟨y, rfl, hy, s6, q6⟩
            go_wp2_with fail
            refine hK.out _ _ (by exact True.intro) ?_
            clear hK K
            try simp only [Act.put, List.setIfInBounds_toArray, List.set_cons_zero, List.set_cons_succ]
            have r6 := r5.trans q6
            have bg6 := bg5.rg q6 (.inr (by omega))
            have br6 := br5.rg q6 (.inr (by omega))
            have o6 := owns_rg o5 q6 (by omega)
            repeat (first | (refine HP.take (v := ?_) (by rfl) ?_ ?_; rotate_left; (· (intro w hSw; (try dsimp only at hSw); go_simp; try with_reducible rfl)); (try simp only [Act.put, List.setIfInBounds_toArray, List.set_cons_zero, List.set_cons_succ])) | (refine HP.skip (by rfl) ?_; (try simp only [Act.put, List.setIfInBounds_toArray, List.set_cons_zero, List.set_cons_succ])))
            refine HP.call ?_
            refine CallStep.mk (by rfl) (fun K hK => ?_)
            go_simp
            refine hK.out _ _ (by exact True.intro) ?_
            clear hK K
            try simp only [Act.put, List.setIfInBounds_toArray, List.set_cons_zero, List.set_cons_succ]
            have bz := bg6.alloc (.cells #[.int .i64 (k : Int), .int .i64 x, .int .i64 y] 66)
            have brz := br6.alloc (.cells #[.int .i64 (k : Int), .int .i64 x, .int .i64 y] 66)
            have oz := o6.alloc (.cells #[.int .i64 (k : Int), .int .i64 x, .int .i64 y] 66)
            have sz := s6.nx ((Nx.refl w6).alloc (.cells #[.int .i64 (k : Int), .int .i64 x, .int .i64 y] 66))
            have rz := r6.trans (Rg.of_nx ((Nx.refl w6).alloc (.cells #[.int .i64 (k : Int), .int .i64 x, .int .i64 y] 66)))
            have HNW := Lib.hid (news3 w6 66 (.int .i64 (k : Int)) (.int .i64 x) (.int .i64 y))
            have HO : Hid (∀ u ∈ [Value.int .i64 (k : Int), .int .i64 x, .int .i64 y], u.oneCell' = true) := Lib.hid (fun u hu => by simp only [List.mem_cons, List.not_mem_nil, or_false] at hu; rcases hu with rfl | rfl | rfl <;> rfl)
            have hw6 := bg6.lt
            change HP _ _ _ _ _ _ (w6.alloc (.cells #[.int .i64 (k : Int), .int .i64 x, .int .i64 y] 66))
            have hzs : w6.heap.size ≤ (w6.alloc (.cells #[.int .i64 (k : Int), .int .i64 x, .int .i64 y] 66)).heap.size := by simp
            generalize w6.alloc (.cells #[.int .i64 (k : Int), .int .i64 x, .int .i64 y] 66) = wz at *
            refine HP.call ?_
            refine CallStep.mk (by rfl) (fun K hK => ?_)
            refine wp_append_own wz _ _ 23 rfl (w.heap.size + 1) 66 i0 _ 3 24 Tryd.underlying23 hi0 hz0' hz1 hz2 rfl (by omega) v cs.length _ rfl oz ⟨w6.heap.size, 0, none⟩ 1 1 [.int .i64 (k : Int), .int .i64 x, .int .i64 y] rfl rfl HNW.out HO.out (by unfold maxLen; omega) (by omega) (by omega) ?_
            intro v2 w2 hw2 hg2 _
            obtain ⟨g2, cp2, rfl, _, _⟩ := hw2.form (by omega)
            have bg2 := bz.grown hg2 (owns_ne oz bz)
            have br2 := brz.grown hg2 (owns_ne oz brz)
            have s2 := sz.grown hg2 (fun e => by have := (oz.lt g e.symm).1; omega)
            have r2 := rz.grown8 hg2 (fun k hk => by have := (oz.lt k hk).1; omega)
            refine hK.out _ _ True.intro ?_
            clear hK K
            try simp only [Act.put, List.setIfInBounds_toArray, List.set_cons_zero, List.set_cons_succ]
            repeat (first | (refine HP.take (v := ?_) (by rfl) ?_ ?_; rotate_left; (· (intro w hSw; (try dsimp only at hSw); go_simp; try with_reducible rfl)); (try simp only [Act.put, List.setIfInBounds_toArray, List.set_cons_zero, List.set_cons_succ])) | (refine HP.skip (by rfl) ?_; (try simp only [Act.put, List.setIfInBounds_toArray, List.set_cons_zero, List.set_cons_succ])))
            obtain ⟨_, _, _, d3⟩ := bg2.d4
            have f3 := bg2.frozen 3
            refine HP.call ?_
            refine CallStep.mk (by rfl) (fun K hK => ?_)
            go_simp
            refine hK.out _ _ (by exact True.intro) ?_
            clear hK K
            try simp only [Act.put, List.setIfInBounds_toArray, List.set_cons_zero, List.set_cons_succ]
            refine HP.done ?_
            have bg3 := bg2.set 3 (.slice (some ⟨g2, 0, none⟩) (cs.length + 1) cp2)
            have o3 := owns_far (u := (.slice (some ⟨g2, 0, none⟩) (cs.length + 1) cp2)) (i := 3) hw2 bg2
            have br3 := br2.far (p := ⟨gG, 3, none⟩) (by simp; omega) (.slice (some ⟨g2, 0, none⟩) (cs.length + 1) cp2)
            have s3 := (s2.more (k' := 9 + 9 * (k + 1)) (by omega)).far8 (p := ⟨gG, 3, none⟩) (by simp; omega) (.slice (some ⟨g2, 0, none⟩) (cs.length + 1) cp2)
            have r3 := r2.setNew8 (p := ⟨gG, 3, none⟩) (by simp; omega) (.slice (some ⟨g2, 0, none⟩) (cs.length + 1) cp2)
            clear d3 f3
            go_wp2
            go_roundw
            case rel =>
              refine ⟨k + 1, _, cs ++ [((k : Int), (x : Int), (y : Int))], by omega, by go_num, bg3, ?_, Lib.hid (chs_more H.out (by omega) (by omega) (by omega)), s3, r3, br3⟩
              rw [List.length_append, chsV_app]; exact o3
            case measure => simp [intOf]; omega
          · refine CallStep.mk (by rfl) (fun K hK => ?_)
            go_simp
            refine (nextR_c 90 g A n c (9 + 9 * k + 3 + 3) B ys _ (by omega) (by omega) s5 (u0.rg r5 hB (Nat.le_of_lt hz0)) hB hn (by omega)).mono ?_
            rintro e w6 ⟨y, rfl, hy, s6, q6⟩
            go_wp2_with fail
            refine hK.out _ _ (by exact True.intro) ?_
            clear hK K
            try simp only [Act.put, List.setIfInBounds_toArray, List.set_cons_zero, List.set_cons_succ]
            have r6 := r5.trans q6
            have bg6 := bg5.rg q6 (.inr (by omega))
            have br6 := br5.rg q6 (.inr (by omega))
            have o6 := owns_rg o5 q6 (by omega)
            repeat (first | (refine HP.take (v := ?_) (by rfl) ?_ ?_; rotate_left; (· (intro w hSw; (try dsimp only at hSw); go_simp; try with_reducible rfl)); (try simp only [Act.put, List.setIfInBounds_toArray, List.set_cons_zero, List.set_cons_succ])) | (refine HP.skip (by rfl) ?_; (try simp only [Act.put, List.setIfInBounds_toArray, List.set_cons_zero, List.set_cons_succ])))
            refine HP.both ?_ ?_
            · obtain ⟨_, _, _, c3⟩ := bg6.d4
              refine CallStep.mk (by rfl) (fun K hK => ?_)
              go_simp
              refine hK.out _ _ (by exact True.intro) ?_
              clear hK K
              try simp only [Act.put, List.setIfInBounds_toArray, List.set_cons_zero, List.set_cons_succ]
              refine HP.call ?_
              refine CallStep.mk (by rfl) (fun K hK => ?_)
              go_simp
              refine hK.out _ _ (by exact True.intro) ?_
              clear hK K
              try simp only [Act.put, List.setIfInBounds_toArray, List.set_cons_zero, List.set_cons_succ]
              have bz := bg6.alloc (.cells #[.int .i64 (k : Int), .int .i64 x, .int .i64 y] 66)
              have brz := br6.alloc (.cells #[.int .i64 (k : Int), .int .i64 x, .int .i64 y] 66)
              have oz := o6.alloc (.cells #[.int .i64 (k : Int), .int .i64 x, .int .i64 y] 66)
              have sz := s6.nx ((Nx.refl w6).alloc (.cells #[.int .i64 (k : Int), .int .i64 x, .int .i64 y] 66))
              have rz := r6.trans (Rg.of_nx ((Nx.refl w6).alloc (.cells #[.int .i64 (k : Int), .int .i64 x, .int .i64 y] 66)))
              have HNW := Lib.hid (news3 w6 66 (.int .i64 (k : Int)) (.int .i64 x) (.int .i64 y))
              have HO : Hid (∀ u ∈ [Value.int .i64 (k : Int), .int .i64 x, .int .i64 y], u.oneCell' = true) := Lib.hid (fun u hu => by simp only [List.mem_cons, List.not_mem_nil, or_false] at hu; rcases hu with rfl | rfl | rfl <;> rfl)
              have hw6 := bg6.lt
              change HP _ _ _ _ _ _ (w6.alloc (.cells #[.int .i64 (k : Int), .int .i64 x, .int .i64 y] 66))
              have hzs : w6.heap.size ≤ (w6.alloc (.cells #[.int .i64 (k : Int), .int .i64 x, .int .i64 y] 66)).heap.size := by simp
              generalize w6.alloc (.cells #[.int .i64 (k : Int), .int .i64 x, .int .i64 y] 66) = wz at *
              refine HP.call ?_
              refine CallStep.mk (by rfl) (fun K hK => ?_)
              refine wp_append_own wz _ _ 23 rfl (w.heap.size + 1) 66 i0 _ 3 24 Tryd.underlying23 hi0 hz0' hz1 hz2 rfl (by omega) v cs.length _ rfl oz ⟨w6.heap.size, 0, none⟩ 1 1 [.int .i64 (k : Int), .int .i64 x, .int .i64 y] rfl rfl HNW.out HO.out (by unfold maxLen; omega) (by omega) (by omega) ?_
              intro v2 w2 hw2 hg2 _
              obtain ⟨g2, cp2, rfl, _, _⟩ := hw2.form (by omega)
              have bg2 := bz.grown hg2 (owns_ne oz bz)
              have br2 := brz.grown hg2 (owns_ne oz brz)
              have s2 := sz.grown hg2 (fun e => by have := (oz.lt g e.symm).1; omega)
              have r2 := rz.grown8 hg2 (fun k hk => by have := (oz.lt k hk).1; omega)
              refine hK.out _ _ True.intro ?_
              clear hK K
              try simp only [Act.put, List.setIfInBounds_toArray, List.set_cons_zero, List.set_cons_succ]
              repeat (first | (refine HP.take (v := ?_) (by rfl) ?_ ?_; rotate_left; (· (intro w hSw; (try dsimp only at hSw); go_simp; try with_reducible rfl)); (try simp only [Act.put, List.setIfInBounds_toArray, List.set_cons_zero, List.set_cons_succ])) | (refine HP.skip (by rfl) ?_; (try simp only [Act.put, List.setIfInBounds_toArray, List.set_cons_zero, List.set_cons_succ])))
              obtain ⟨_, _, _, d3⟩ := bg2.d4
              have f3 := bg2.frozen 3
              refine HP.call ?_
              refine CallStep.mk (by rfl) (fun K hK => ?_)
              go_simp
              refine hK.out _ _ (by exact True.intro) ?_
              clear hK K
              try simp only [Act.put, List.setIfInBounds_toArray, List.set_cons_zero, List.set_cons_succ]
              refine HP.done ?_
              have bg3 := bg2.set 3 (.slice (some ⟨g2, 0, none⟩) (cs.length + 1) cp2)
              have o3 := owns_far (u := (.slice (some ⟨g2, 0, none⟩) (cs.length + 1) cp2)) (i := 3) hw2 bg2
              have br3 := br2.far (p := ⟨gG, 3, none⟩) (by simp; omega) (.slice (some ⟨g2, 0, none⟩) (cs.length + 1) cp2)
              have s3 := (s2.more (k' := 9 + 9 * (k + 1)) (by omega)).far8 (p := ⟨gG, 3, none⟩) (by simp; omega) (.slice (some ⟨g2, 0, none⟩) (cs.length + 1) cp2)
              have r3 := r2.setNew8 (p := ⟨gG, 3, none⟩) (by simp; omega) (.slice (some ⟨g2, 0, none⟩) (cs.length + 1) cp2)
              clear d3 f3
              go_wp2
              go_roundw
              case rel =>
                refine ⟨k + 1, _, cs ++ [((k : Int), (x : Int), (y : Int))], by omega, by go_num, bg3, ?_, Lib.hid (chs_more H.out (by omega) (by omega) (by omega)), s3, r3, br3⟩
                rw [List.length_append, chsV_app]; exact o3
              case measure => simp [intOf]; omega
            · refine CallStep.mk (by rfl) (fun K hK => ?_)
              go_simp
              refine hK.out _ _ (by exact True.intro) ?_
              clear hK K
              try simp only [Act.put, List.setIfInBounds_toArray, List.set_cons_zero, List.set_cons_succ]
              refine HP.call ?_
              have hlt6 := bg6.lt
              obtain ⟨_, _, _, c3⟩ := bg6.d4
              refine CallStep.mk (by rfl) (fun K hK => ?_)
              go_simp
              refine hK.out _ _ (by exact True.intro) ?_
              clear hK K
              try simp only [Act.put, List.setIfInBounds_toArray, List.set_cons_zero, List.set_cons_succ]
              have bz := bg6.alloc (.cells #[.int .i64 (k : Int), .int .i64 x, .int .i64 y] 66)
              have brz := br6.alloc (.cells #[.int .i64 (k : Int), .int .i64 x, .int .i64 y] 66)
              have oz := o6.alloc (.cells #[.int .i64 (k : Int), .int .i64 x, .int .i64 y] 66)
              have sz := s6.nx ((Nx.refl w6).alloc (.cells #[.int .i64 (k : Int), .int .i64 x, .int .i64 y] 66))
              have rz := r6.trans (Rg.of_nx ((Nx.refl w6).alloc (.cells #[.int .i64 (k : Int), .int .i64 x, .int .i64 y] 66)))
              have HNW := Lib.hid (news3 w6 66 (.int .i64 (k : Int)) (.int .i64 x) (.int .i64 y))
              have HO : Hid (∀ u ∈ [Value.int .i64 (k : Int), .int .i64 x, .int .i64 y], u.oneCell' = true) := Lib.hid (fun u hu => by simp only [List.mem_cons, List.not_mem_nil, or_false] at hu; rcases hu with rfl | rfl | rfl <;> rfl)
              have hw6 := bg6.lt
              change HP _ _ _ _ _ _ (w6.alloc (.cells #[.int .i64 (k : Int), .int .i64 x, .int .i64 y] 66))
              have hzs : w6.heap.size ≤ (w6.alloc (.cells #[.int .i64 (k : Int), .int .i64 x, .int .i64 y] 66)).heap.size := by simp
              generalize w6.alloc (.cells #[.int .i64 (k : Int), .int .i64 x, .int .i64 y] 66) = wz at *
              refine HP.call ?_
              refine CallStep.mk (by rfl) (fun K hK => ?_)
              refine wp_append_own wz _ _ 23 rfl (w.heap.size + 1) 66 i0 _ 3 24 Tryd.underlying23 hi0 hz0' hz1 hz2 rfl (by omega) v cs.length _ rfl oz ⟨w6.heap.size, 0, none⟩ 1 1 [.int .i64 (k : Int), .int .i64 x, .int .i64 y] rfl rfl HNW.out HO.out (by unfold maxLen; omega) (by omega) (by omega) ?_
              intro v2 w2 hw2 hg2 _
              obtain ⟨g2, cp2, rfl, _, _⟩ := hw2.form (by omega)
              have bg2 := bz.grown hg2 (owns_ne oz bz)
              have br2 := brz.grown hg2 (owns_ne oz brz)
              have s2 := sz.grown hg2 (fun e => by have := (oz.lt g e.symm).1; omega)
              have r2 := rz.grown8 hg2 (fun k hk => by have := (oz.lt k hk).1; omega)
              refine hK.out _ _ True.intro ?_
              clear hK K
              try simp only [Act.put, List.setIfInBounds_toArray, List.set_cons_zero, List.set_cons_succ]
              repeat (first | (refine HP.take (v := ?_) (by rfl) ?_ ?_; rotate_left; (· (intro w hSw; (try dsimp only at hSw); go_simp; try with_reducible rfl)); (try simp only [Act.put, List.setIfInBounds_toArray, List.set_cons_zero, List.set_cons_succ])) | (refine HP.skip (by rfl) ?_; (try simp only [Act.put, List.setIfInBounds_toArray, List.set_cons_zero, List.set_cons_succ])))
              obtain ⟨_, _, _, d3⟩ := bg2.d4
              have f3 := bg2.frozen 3
              refine HP.call ?_
              refine CallStep.mk (by rfl) (fun K hK => ?_)
              go_simp
              refine hK.out _ _ (by exact True.intro) ?_
              clear hK K
              try simp only [Act.put, List.setIfInBounds_toArray, List.set_cons_zero, List.set_cons_succ]
              refine HP.done ?_
              have bg3 := bg2.set 3 (.slice (some ⟨g2, 0, none⟩) (cs.length + 1) cp2)
              have o3 := owns_far (u := (.slice (some ⟨g2, 0, none⟩) (cs.length + 1) cp2)) (i := 3) hw2 bg2
              have br3 := br2.far (p := ⟨gG, 3, none⟩) (by simp; omega) (.slice (some ⟨g2, 0, none⟩) (cs.length + 1) cp2)
              have s3 := (s2.more (k' := 9 + 9 * (k + 1)) (by omega)).far8 (p := ⟨gG, 3, none⟩) (by simp; omega) (.slice (some ⟨g2, 0, none⟩) (cs.length + 1) cp2)
              have r3 := r2.setNew8 (p := ⟨gG, 3, none⟩) (by simp; omega) (.slice (some ⟨g2, 0, none⟩) (cs.length + 1) cp2)
              clear d3 f3
              go_wp2
              go_roundw
              case rel =>
                refine ⟨k + 1, _, cs ++ [((k : Int), (x : Int), (y : Int))], by omega, by go_num, bg3, ?_, Lib.hid (chs_more H.out (by omega) (by omega) (by omega)), s3, r3, br3⟩
                rw [List.length_append, chsV_app]; exact o3
              case measure => simp [intOf]; omega
    · obtain rfl : k = 8 := by omega
      obtain ⟨A2, c2, rfl, hS⟩ := owns_slC o
      obtain ⟨x0, x1, x2, x3⟩ := bg.d4
      obtain ⟨c0, c1, c2', c3⟩ := br.d4
      have f0 := br.frozen 0
      have f1 := br.frozen 1
      have f2 := br.frozen 2
      have f3 := br.frozen 3
      have HB := Lib.hid (show segB f t9 m cs = true by unfold segB inB; rw [H.out.1]; have := Ht9.out; simp; omega)
      go_wp2
      have q := put4_box br (.int .i64 f) (.int .i64 t9) (.int .i64 m) (.slice A2 cs.length c2)
      have hsf := hS.put4 (g := w.heap.size) (by omega) (.int .i64 f) (.int .i64 t9) (.int .i64 m) (.slice A2 cs.length c2)
      have hnf := (((r.setNew8 (p := ⟨w.heap.size, 0, none⟩) (Nat.le_refl _) (.int .i64 f)).setNew8 (p := ⟨w.heap.size, 1, none⟩) (Nat.le_refl _) (.int .i64 t9)).setNew8 (p := ⟨w.heap.size, 2, none⟩) (Nat.le_refl _) (.int .i64 m)).setNew8 (p := ⟨w.heap.size, 3, none⟩) (Nat.le_refl _) (.slice A2 cs.length c2)
      change Rg _ _ _ (put4 wr w.heap.size (.int .i64 f) (.int .i64 t9) (.int .i64 m) (.slice A2 cs.length c2)) at hnf
      change bodyPost _ _ _ _ _ (put4 wr w.heap.size (.int .i64 f) (.int .i64 t9) (.int .i64 m) (.slice A2 cs.length c2))
      generalize put4 wr w.heap.size (.int .i64 f) (.int .i64 t9) (.int .i64 m) (.slice A2 cs.length c2) = Wf at *
      obtain ⟨g0, g1, g2, g3⟩ := q.d4
      exact bodyPost_ret (v := .agg #[.int .i64 f, .int .i64 t9, .int .i64 m, .slice A2 cs.length c2]) (by simp [results, Tryd.results29, go_sem, g0, g1, g2, g3]) rfl ⟨f, t9, m, cs, A2, c2, rfl, HB.out, hcl, hsf, hnf⟩
set_option maxRecDepth 100000 in
set_option maxHeartbeats 1000000 in
theorem segDrawn_c (A : Option Addr) (n c : Nat) (ys : List Nat) (w : World) (h : U8s w w.heap.size A n ys) (hn : n ≤ 1048576) :
    Calls Tryd.prog 6 #[.slice A n c] w fun e w' => ∃ (f t m : Nat) (cs : List Chg) (A2 : Option Addr) (c2 : Nat), e = .returned (.agg #[.int .i64 f, .int .i64 t, .int .i64 m, .slice A2 cs.length c2]) ∧ segB f t m cs = true ∧ cs.length ≤ 8 ∧ Sl w' w.heap.size A2 66 (cs.length * 3) (chAt cs) ∧ Nx w w' := by
  go_enter Tryd.func6, Tryd.ntmps6
  go_wp2_with fail
  have b0 := Box.new w 25 #[.int .i64 0, .int .i64 0, .int .i64 0, .slice none 0 0]
  have hx0 := (Nx.refl w).alloc (.cells #[.int .i64 0, .int .i64 0, .int .i64 0, .slice none 0 0] 25)
  have u0 := h.below hx0 (Nat.le_refl _)
  generalize w.alloc (.cells #[.int .i64 0, .int .i64 0, .int .i64 0, .slice none 0 0] 25) = W at *
  have hz := b0.lt
  refine (l00Source_c A n c _ hn).mono ?_
  rintro e w1 ⟨rfl, s1, hnx1⟩
  have u1 := u0.below hnx1 (by omega)
  have hz1 := hnx1.size
  go_wp2_with fail
  refine (seg_c W.heap.size A n c w.heap.size ys _ ⟨0, n % 1000, by omega, by omega, s1⟩ u1 (by omega) hn).mono ?_
  rintro e w2 ⟨f, t, m, cs, A2, c2, rfl, hf, hl, hS, r2⟩
  have HF := Lib.hid hf
  clear hf
  have b2 := (b0.nx hnx1).rg r2 (.inl hz)
  have hx2 := Rg.nx_of (hx0.trans hnx1) r2 (by omega)
  have hgl : w.heap.size < w1.heap.size + 1 := by omega
  clear u0 u1 b0 hx0 hnx1 r2 s1
  obtain ⟨c0, c1, c2', c3⟩ := b2.d4
  have f0 := b2.frozen 0
  have f1 := b2.frozen 1
  have f2 := b2.frozen 2
  have f3 := b2.frozen 3
  go_wp2
  have q := put4_box b2 (.int .i64 f) (.int .i64 t) (.int .i64 m) (.slice A2 cs.length c2)
  have hnf := put4_nx hx2 (Nat.le_refl w.heap.size) (.int .i64 f) (.int .i64 t) (.int .i64 m) (.slice A2 cs.length c2)
  have hsf := (hS.put4 hgl (.int .i64 f) (.int .i64 t) (.int .i64 m) (.slice A2 cs.length c2)).low (show w.heap.size ≤ _ by omega)
  change bodyPost _ _ _ _ _ (put4 w2 w.heap.size (.int .i64 f) (.int .i64 t) (.int .i64 m) (.slice A2 cs.length c2))
  generalize put4 w2 w.heap.size (.int .i64 f) (.int .i64 t) (.int .i64 m) (.slice A2 cs.length c2) = Wf at *
  obtain ⟨g0, g1, g2, g3⟩ := q.d4
  exact bodyPost_ret (v := .agg #[.int .i64 f, .int .i64 t, .int .i64 m, .slice A2 cs.length c2]) (by simp [results, Tryd.results6, go_sem, g0, g1, g2, g3]) rfl ⟨f, t, m, cs, A2, c2, rfl, HF.out, hl, hsf, hnf⟩
end Go.Proofs.YtiocbppldpogpaaDoor
