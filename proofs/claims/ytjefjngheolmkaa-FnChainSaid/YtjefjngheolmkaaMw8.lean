/-
  Texts of the proof, put together in their order: Mgp, Cnd, Cne, Atp, Mgv, Sgl, Sgm, Chn, Chi, Chs, Chv, Rgs.
  Conditions: those of each.
-/
import Derived.Test.YtjefjngheolmkaaMw7
import Derived.StillTailTactics
/- Contract of MergeSegs, as the model has it. Conditions: the segments can be read, and have at most 1048576 changes. -/
namespace Go.Proofs.Ytjefjngheolmkaa
set_option linter.unusedVariables false
set_option maxRecDepth 100000
open Go.RowKit


set_option maxRecDepth 100000 in
set_option maxHeartbeats 8000000 in
theorem specMergeSegs_c (f t m : Int) (A : Option Addr) (c : Nat) (l1 : List Chg) (f2 t2 m2 : Int) (A2 : Option Addr) (c2 : Nat) (l2 : List Chg) (B : Nat) (w : World) (h1 : Chs w B A l1) (h2 : Chs w B A2 l2) (hB : B ≤ w.heap.size) (hn1 : l1.length ≤ 1048576) (hn2 : l2.length ≤ 1048576) :
    Calls Try.prog 43 #[.agg #[.int .i64 f, .int .i64 t, .int .i64 m, .slice A l1.length c], .agg #[.int .i64 f2, .int .i64 t2, .int .i64 m2, .slice A2 l2.length c2]] w (RetSC w (mgSg f t m l1 f2 t2 m2 l2) (mgCd f t m l1 f2 t2 m2 l2)) := by
  have bA0 := ((Box.new w 30 #[.int .i64 f, .int .i64 t, .int .i64 m, .slice A l1.length c]).alloc (.cells #[.int .i64 f2, .int .i64 t2, .int .i64 m2, .slice A2 l2.length c2] 30)).alloc (.cells #[.int .i64 0, .int .i64 0, .int .i64 0, .slice none 0 0] 30)
  have bB0 := (Box.new (w.alloc (.cells #[.int .i64 f, .int .i64 t, .int .i64 m, .slice A l1.length c] 30)) 30 #[.int .i64 f2, .int .i64 t2, .int .i64 m2, .slice A2 l2.length c2]).alloc (.cells #[.int .i64 0, .int .i64 0, .int .i64 0, .slice none 0 0] 30)
  have bR0 := Box.new ((w.alloc (.cells #[.int .i64 f, .int .i64 t, .int .i64 m, .slice A l1.length c] 30)).alloc (.cells #[.int .i64 f2, .int .i64 t2, .int .i64 m2, .slice A2 l2.length c2] 30)) 30 #[.int .i64 0, .int .i64 0, .int .i64 0, .slice none 0 0]
  have hx0 := (((Nx.refl w).alloc (.cells #[.int .i64 f, .int .i64 t, .int .i64 m, .slice A l1.length c] 30)).alloc (.cells #[.int .i64 f2, .int .i64 t2, .int .i64 m2, .slice A2 l2.length c2] 30)).alloc (.cells #[.int .i64 0, .int .i64 0, .int .i64 0, .slice none 0 0] 30)
  simp only [World.size_alloc] at bB0 bR0
  cases hs1 : segB f t m l1
  · have HS1 := Lib.hid hs1
    have HR := Lib.hid (mg_bad (f := f) (t := t) (m := m) (l1 := l1) (f2 := f2) (t2 := t2) (m2 := m2) (l2 := l2) (by unfold mgB; rw [hs1]; rfl))
    clear hs1
    go_enter Try.func43, Try.ntmps43
    go_wp2_with fail
    generalize ((w.alloc (.cells #[.int .i64 f, .int .i64 t, .int .i64 m, .slice A l1.length c] 30)).alloc (.cells #[.int .i64 f2, .int .i64 t2, .int .i64 m2, .slice A2 l2.length c2] 30)).alloc (.cells #[.int .i64 0, .int .i64 0, .int .i64 0, .slice none 0 0] 30) = W at *
    refine (specSegOK_c f t m A c B l1 _ (h1.below hx0 hB) (Nat.le_trans hB hx0.size) hn1).mono ?_
    rintro e w1 ⟨rfl, hx1⟩
    rw [HS1.out]
    have bR := bR0.nx hx1
    have hX := hx0.trans hx1
    obtain ⟨rc0, rc1, rc2, rc3⟩ := bR.d4
    have rf0 := bR.frozen 0
    have rf1 := bR.frozen 1
    have rf2 := bR.frozen 2
    have rf3 := bR.frozen 3
    have rlt := bR.lt
    go_wp2
    have rq := (put4_box bR (.int .i64 0) (.int .i64 0) (.int .i64 0) (.slice none 0 0))
    have hnf := (put4_nx (g := (w.heap.size + 1 + 1)) hX (by omega) (.int .i64 0) (.int .i64 0) (.int .i64 0) (.slice none 0 0))
    unfold put4 at rq hnf
    generalize ((((w1.setCell ⟨(w.heap.size + 1 + 1), 0, none⟩ (.int .i64 0)).setCell ⟨(w.heap.size + 1 + 1), 1, none⟩ (.int .i64 0)).setCell ⟨(w.heap.size + 1 + 1), 2, none⟩ (.int .i64 0)).setCell ⟨(w.heap.size + 1 + 1), 3, none⟩ (.slice none 0 0)) = Wf at *
    obtain ⟨rg0, rg1, rg2, rg3⟩ := rq.d4
    exact bodyPost_ret (v := .tuple #[.agg #[.int .i64 0, .int .i64 0, .int .i64 0, .slice none 0 0], .int .i64 1]) (by simp [results, Try.results43, go_sem, rg0, rg1, rg2, rg3]) rfl ⟨none, 0, by rw [HR.out.1, HR.out.2]; rfl, by rw [HR.out.2]; exact Sl.none_ _ _ _ _ _, hnf⟩
  have HS1 := Lib.hid hs1
  cases hs2 : segB f2 t2 m2 l2
  · have HS2 := Lib.hid hs2
    have HR := Lib.hid (mg_bad (f := f) (t := t) (m := m) (l1 := l1) (f2 := f2) (t2 := t2) (m2 := m2) (l2 := l2) (by unfold mgB; rw [hs1, hs2]; rfl))
    clear hs1 hs2
    go_enter Try.func43, Try.ntmps43
    go_wp2_with fail
    generalize ((w.alloc (.cells #[.int .i64 f, .int .i64 t, .int .i64 m, .slice A l1.length c] 30)).alloc (.cells #[.int .i64 f2, .int .i64 t2, .int .i64 m2, .slice A2 l2.length c2] 30)).alloc (.cells #[.int .i64 0, .int .i64 0, .int .i64 0, .slice none 0 0] 30) = W at *
    refine (specSegOK_c f t m A c B l1 _ (h1.below hx0 hB) (Nat.le_trans hB hx0.size) hn1).mono ?_
    rintro e w0 ⟨rfl, hx1⟩
    rw [HS1.out]
    have hX0 := hx0.trans hx1
    obtain ⟨k0, k1, k2, k3⟩ := (bB0.nx hx1).d4
    go_wp2_with fail
    refine (specSegOK_c f2 t2 m2 A2 c2 B l2 _ (h2.below hX0 hB) (Nat.le_trans hB hX0.size) hn2).mono ?_
    rintro e w1 ⟨rfl, hx2⟩
    rw [HS2.out]
    have bR := (bR0.nx hx1).nx hx2
    have hX := hX0.trans hx2
    clear k0 k1 k2 k3
    obtain ⟨rc0, rc1, rc2, rc3⟩ := bR.d4
    have rf0 := bR.frozen 0
    have rf1 := bR.frozen 1
    have rf2 := bR.frozen 2
    have rf3 := bR.frozen 3
    have rlt := bR.lt
    go_wp2
    have rq := (put4_box bR (.int .i64 0) (.int .i64 0) (.int .i64 0) (.slice none 0 0))
    have hnf := (put4_nx (g := (w.heap.size + 1 + 1)) hX (by omega) (.int .i64 0) (.int .i64 0) (.int .i64 0) (.slice none 0 0))
    unfold put4 at rq hnf
    generalize ((((w1.setCell ⟨(w.heap.size + 1 + 1), 0, none⟩ (.int .i64 0)).setCell ⟨(w.heap.size + 1 + 1), 1, none⟩ (.int .i64 0)).setCell ⟨(w.heap.size + 1 + 1), 2, none⟩ (.int .i64 0)).setCell ⟨(w.heap.size + 1 + 1), 3, none⟩ (.slice none 0 0)) = Wf at *
    obtain ⟨rg0, rg1, rg2, rg3⟩ := rq.d4
    exact bodyPost_ret (v := .tuple #[.agg #[.int .i64 0, .int .i64 0, .int .i64 0, .slice none 0 0], .int .i64 1]) (by simp [results, Try.results43, go_sem, rg0, rg1, rg2, rg3]) rfl ⟨none, 0, by rw [HR.out.1, HR.out.2]; rfl, by rw [HR.out.2]; exact Sl.none_ _ _ _ _ _, hnf⟩
  have HS2 := Lib.hid hs2
  have hmg : mgB f t m l1 f2 t2 m2 l2 = true := by unfold mgB; rw [hs1, hs2]; rfl
  clear hs1 hs2
  go_enter Try.func43, Try.ntmps43
  go_wp2_with fail
  generalize ((w.alloc (.cells #[.int .i64 f, .int .i64 t, .int .i64 m, .slice A l1.length c] 30)).alloc (.cells #[.int .i64 f2, .int .i64 t2, .int .i64 m2, .slice A2 l2.length c2] 30)).alloc (.cells #[.int .i64 0, .int .i64 0, .int .i64 0, .slice none 0 0] 30) = W at *
  refine (specSegOK_c f t m A c B l1 _ (h1.below hx0 hB) (Nat.le_trans hB hx0.size) hn1).mono ?_
  rintro e w0 ⟨rfl, hx1⟩
  rw [HS1.out]
  have hX0 := hx0.trans hx1
  obtain ⟨k0, k1, k2, k3⟩ := (bB0.nx hx1).d4
  go_wp2_with fail
  refine (specSegOK_c f2 t2 m2 A2 c2 B l2 _ (h2.below hX0 hB) (Nat.le_trans hB hX0.size) hn2).mono ?_
  rintro e w1 ⟨rfl, hx2⟩
  rw [HS2.out]
  have bA := (bA0.nx hx1).nx hx2
  have bB := (bB0.nx hx1).nx hx2
  have bR := (bR0.nx hx1).nx hx2
  have hX := hX0.trans hx2
  clear k0 k1 k2 k3 bA0 bB0 bR0 hx0 hx1 hx2 hX0
  obtain ⟨k0, k1, k2, k3⟩ := bA.d4
  obtain ⟨m0, m1, m2', m3⟩ := bB.d4
  by_cases hg : t = f2
  case neg =>
    have HR := Lib.hid (mg_gap hmg hg)
    have hd : (t != f2) = true := by simp [hg]
    clear hmg
    obtain ⟨rc0, rc1, rc2, rc3⟩ := bR.d4
    have rf0 := bR.frozen 0
    have rf1 := bR.frozen 1
    have rf2 := bR.frozen 2
    have rf3 := bR.frozen 3
    have rlt := bR.lt
    go_wp2
    have rq := (put4_box bR (.int .i64 0) (.int .i64 0) (.int .i64 0) (.slice none 0 0))
    have hnf := (put4_nx (g := (w.heap.size + 1 + 1)) hX (by omega) (.int .i64 0) (.int .i64 0) (.int .i64 0) (.slice none 0 0))
    unfold put4 at rq hnf
    generalize ((((w1.setCell ⟨(w.heap.size + 1 + 1), 0, none⟩ (.int .i64 0)).setCell ⟨(w.heap.size + 1 + 1), 1, none⟩ (.int .i64 0)).setCell ⟨(w.heap.size + 1 + 1), 2, none⟩ (.int .i64 0)).setCell ⟨(w.heap.size + 1 + 1), 3, none⟩ (.slice none 0 0)) = Wf at *
    obtain ⟨rg0, rg1, rg2, rg3⟩ := rq.d4
    exact bodyPost_ret (v := .tuple #[.agg #[.int .i64 0, .int .i64 0, .int .i64 0, .slice none 0 0], .int .i64 17]) (by simp [results, Try.results43, go_sem, rg0, rg1, rg2, rg3]) rfl ⟨none, 0, by rw [HR.out.1, HR.out.2]; rfl, by rw [HR.out.2]; exact Sl.none_ _ _ _ _ _, hnf⟩
  have HR := Lib.hid (mg_yes hmg hg)
  have hd : (t != f2) = false := by simp [hg]
  obtain ⟨r, Hr⟩ : ∃ r, Hid (mrgC l1 l2 = r) := ⟨_, rfl⟩
  rw [Hr.out] at HR
  have HG := Lib.hid hg
  clear hmg hg
  go_wp2_with fail
  refine (l03Merge_c f t m A c l1 f2 t2 m2 A2 c2 l2 B _ (h1.below hX hB) (h2.below hX hB) (Nat.le_trans hB hX.size) (segB_chs HS1.out) (segB_chs HS2.out)).mono ?_
  intro e w3 hR9
  unfold RetG at hR9
  rw [Hr.out] at hR9
  obtain ⟨A9, c9, rfl, hS9, hx9⟩ := hR9
  have zl : w.heap.size + 1 + 1 < w1.heap.size := bR.lt
  have bR9 := bR.nx hx9
  have hX9 := hX.trans hx9
  clear k0 k1 k2 k3 m0 m1 m2' m3
  obtain ⟨rc0, rc1, rc2, rc3⟩ := bR9.d4
  have rf0 := bR9.frozen 0
  have rf1 := bR9.frozen 1
  have rf2 := bR9.frozen 2
  have rf3 := bR9.frozen 3
  have rlt := bR9.lt
  go_wp2
  have rq := (put4_box bR9 (.int .i64 f) (.int .i64 t2) (.int .i64 m2) (.slice A9 r.length c9))
  have hnf := (put4_nx (g := (w.heap.size + 1 + 1)) hX9 (by omega) (.int .i64 f) (.int .i64 t2) (.int .i64 m2) (.slice A9 r.length c9))
  unfold put4 at rq hnf
  have hSf := (((((hS9.low (lo' := w.heap.size + 1 + 1 + 1) (by omega)).far (p := ⟨(w.heap.size + 1 + 1), 0, none⟩) (by simp) (.int .i64 f)).far (p := ⟨(w.heap.size + 1 + 1), 1, none⟩) (by simp) (.int .i64 t2)).far (p := ⟨(w.heap.size + 1 + 1), 2, none⟩) (by simp) (.int .i64 m2)).far (p := ⟨(w.heap.size + 1 + 1), 3, none⟩) (by simp) (.slice A9 r.length c9))
  replace hSf := hSf.low (lo' := w.heap.size) (by omega)
  generalize ((((w3.setCell ⟨(w.heap.size + 1 + 1), 0, none⟩ (.int .i64 f)).setCell ⟨(w.heap.size + 1 + 1), 1, none⟩ (.int .i64 t2)).setCell ⟨(w.heap.size + 1 + 1), 2, none⟩ (.int .i64 m2)).setCell ⟨(w.heap.size + 1 + 1), 3, none⟩ (.slice A9 r.length c9)) = Wf at *
  obtain ⟨rg0, rg1, rg2, rg3⟩ := rq.d4
  exact bodyPost_ret (v := .tuple #[.agg #[.int .i64 f, .int .i64 t2, .int .i64 m2, .slice A9 r.length c9], .int .i64 0]) (by simp [results, Try.results43, go_sem, rg0, rg1, rg2, rg3]) rfl ⟨A9, c9, by rw [HR.out.1, HR.out.2], by rw [HR.out.2]; exact hSf, hnf⟩
end Go.Proofs.Ytjefjngheolmkaa
/- Rows of ints of the call's own that grow by one; drawn contents. Conditions: the code can be read, and holds at most 1048576 bytes. -/
namespace Go.Proofs.Ytjefjngheolmkaa
set_option linter.unusedVariables false
set_option maxRecDepth 100000
open Go.RowKit

end Go.Proofs.Ytjefjngheolmkaa
/- Drawn contents: eight values below 90. Conditions: the code can be read, and holds at most 1048576 bytes. -/
namespace Go.Proofs.Ytjefjngheolmkaa
set_option linter.unusedVariables false
set_option maxRecDepth 100000
open Go.RowKit

def Sm (xs : List Int) : Prop := ∀ x ∈ xs, 0 ≤ x ∧ x < 90
theorem Sm.add {xs : List Int} (h : Sm xs) {v : Nat} (hv : v < 90) : Sm (xs ++ [(v : Int)]) := fun x hx => by
  rcases List.mem_append.1 hx with hx | hx
  · exact h x hx
  · simp only [List.mem_singleton] at hx
    subst hx
    omega
theorem Sm.cont {xs : List Int} (h : Sm xs) (hl : xs.length = 8) : contB xs = true := by
  unfold contB
  rw [decide_eq_true hl, List.all_eq_true.2 fun x hx => by have := h x hx; unfold inB; simp; omega]; rfl
theorem SrcR.rgO {w w' : World} {B : Nat} {g n c k : Nat} {A : Option Addr} (h : SrcR w g A n c k) (hb : GrewT 3 B w w') : SrcR w' g A n c k := by
  obtain ⟨a, sd, h1, h2, h3⟩ := h
  unfold Src at h3
  exact ⟨a, sd, h1, h2, hb.box _ _ _ (by decide) h3⟩
set_option maxRecDepth 100000 in
set_option maxHeartbeats 2000000 in
theorem content_c (g : Nat) (A : Option Addr) (n c B k0 : Nat) (ys : List Nat) (w : World) (hb : SrcR w g A n c k0) (h : U8s w B A n ys) (hB : B ≤ g) (hn : n ≤ 1048576) (hk0 : k0 ≤ 1000000) :
    Calls Try.prog 74 #[.pointer (some ⟨g, 0, none⟩)] w fun e w' => ∃ A' c' xs, e = .returned (.slice A' 8 c') ∧ xs.length = 8 ∧ Sm xs ∧ SlI w' w.heap.size A' xs ∧ SrcR w' g A n c (k0 + 24) ∧ Rg g (g + 1) w w' := by
  have hz0 := hb.lt
  have hrow0 := RowI.new w (Nat.le_refl _)
  have hx0 := (Nx.refl w).alloc (.cells #[] 3)
  go_enter Try.func74, Try.ntmps74
  go_wp2_with fail
  go_loopw [3, 4] (fun v i wr => ∃ (k : Nat) (xs : List Int), k ≤ 8 ∧ i = .int .i64 k ∧ xs.length = k ∧ Sm xs ∧ (∃ u, u = v ∧ RowI wr w.heap.size u xs) ∧ SrcR wr g A n c (k0 + 3 * k) ∧ Rg g (g + 1) w wr) (fun _ i _ => 8 - (intOf i).toNat)
  case atStart => exact ⟨0, [], by omega, rfl, rfl, (fun x hx => by cases hx), ⟨_, rfl, hrow0⟩, (hb.nx hx0).more (by omega), Rg.of_nx hx0⟩
  case round =>
    obtain ⟨k, xs, hk, rfl, hl, hsm, ⟨u, rfl, hrow⟩, hs, hrg⟩ := hrel
    clear hrow0 hx0
    by_cases hlt : k < 8
    case neg =>
      obtain rfl : k = 8 := by omega
      obtain ⟨A', c', rfl, hS⟩ := hrow.sl
      rw [hl]
      go_wp2
      go_ret
      exact ⟨A', c', xs, rfl, hl, hsm, hS, hs.more (by omega), hrg⟩
    have hu := h.rg hrg hB (Nat.le_of_lt hz0)
    go_wp2_with fail
    refine (nextR_c 90 g A n c (k0 + 3 * k) B ys _ (by omega) (by omega) hs hu hB hn (by omega)).mono ?_
    rintro e w1 ⟨v, rfl, hv, hs1, hr1⟩
    have hx1 := (Nx.refl w1).alloc (.cells #[.int .i64 (v : Int)] 3)
    have hbx := Box.new w1 3 #[.int .i64 (v : Int)]
    have hrow1 := (hrow.rg hr1 (by omega)).nx hx1
    have hs2 := hs1.nx hx1
    have hr2 := (hrg.trans hr1).trans (Rg.of_nx (lo := g) (hi := g + 1) hx1)
    have hsz := Nat.le_trans hr2.size (Nat.le_refl _)
    have HR := Lib.hid hrow1
    have HB := Lib.hid hbx
    have HL := Lib.hid hl
    clear hrow hrow1 hbx hs hs1 hu hl hrg hr1
    go_wp2_with (at_builtin; refine wpList_addI rfl _ _ rfl w.heap.size w1.heap.size _ xs (v : Int) rfl rfl HR.out HB.out (by have := HL.out; omega) hsz ?_)
    intro A' k' w2 hrow2 hgr
    go_wp2
    go_roundw
    case rel => exact ⟨k + 1, xs ++ [(v : Int)], by omega, by go_num, by rw [List.length_append, HL.out]; rfl, hsm.add hv, ⟨_, rfl, hrow2⟩, (hs2.rgO hgr).more (by omega), hgr.rg _ _ _ hr2 (Nat.le_refl _)⟩
    case measure => simp [intOf]; omega
end Go.Proofs.Ytjefjngheolmkaa
/- Contracts of the laws' functions sameSeg, at, sameInts, and of the model's ContentDrawn. Conditions: what is read can be read, and has at most 1048576 elements. -/
namespace Go.Proofs.Ytjefjngheolmkaa
set_option linter.unusedVariables false
set_option maxRecDepth 100000
open Go.RowKit

set_option maxRecDepth 100000 in
set_option maxHeartbeats 1000000 in
theorem sameSegP_c (f t m : Int) (A A2 : Option Addr) (c c2 B : Nat) (cs : List Chg) (w : World) (h : Chs w B A cs) (h2 : Chs w B A2 cs) (hB : B ≤ w.heap.size) (hn : cs.length ≤ 1048576) :
    Calls Try.prog 44 #[.agg #[.int .i64 f, .int .i64 t, .int .i64 m, .slice A cs.length c], .agg #[.int .i64 f, .int .i64 t, .int .i64 m, .slice A2 cs.length c2]] w fun e w' => e = .returned (.bool true) ∧ Nx w w' := by
  have b0 := (Box.new w 30 #[.int .i64 f, .int .i64 t, .int .i64 m, .slice A cs.length c]).alloc (.cells #[.int .i64 f, .int .i64 t, .int .i64 m, .slice A2 cs.length c2] 30)
  have b2 := Box.new (w.alloc (.cells #[.int .i64 f, .int .i64 t, .int .i64 m, .slice A cs.length c] 30)) 30 #[.int .i64 f, .int .i64 t, .int .i64 m, .slice A2 cs.length c2]
  simp only [World.size_alloc] at b2
  have hx0 := ((Nx.refl w).alloc (.cells #[.int .i64 f, .int .i64 t, .int .i64 m, .slice A cs.length c] 30)).alloc (.cells #[.int .i64 f, .int .i64 t, .int .i64 m, .slice A2 cs.length c2] 30)
  go_enter Try.func44, Try.ntmps44
  go_wp2
  generalize (w.alloc (.cells #[.int .i64 f, .int .i64 t, .int .i64 m, .slice A cs.length c] 30)).alloc (.cells #[.int .i64 f, .int .i64 t, .int .i64 m, .slice A2 cs.length c2] 30) = W at *
  have k1 := h.below hx0 hB
  have k2 := h2.below hx0 hB
  have hB' : B ≤ W.heap.size := Nat.le_trans hB hx0.size
  clear h h2
  go_loopw [5] (fun i wr => ∃ k : Nat, k ≤ cs.length ∧ i = .int .i64 k ∧ Nx W wr) (fun i _ => cs.length - (intOf i).toNat)
  case atStart => exact ⟨0, Nat.zero_le _, rfl, Nx.refl _⟩
  case round =>
    obtain ⟨k, hk, rfl, hnx⟩ := hrel
    obtain ⟨_, _, _, c3⟩ := (b0.nx hnx).d4
    obtain ⟨_, _, _, d3⟩ := (b2.nx hnx).d4
    by_cases hlt : k < cs.length
    · obtain ⟨b, off, rfl, hb, p0, p1, p2⟩ := (k1.below hnx hB').at_ hlt
      obtain ⟨b2, off2, rfl, hb2, q0, q1, q2⟩ := (k2.below hnx hB').at_ hlt
      generalize cs.getD k chZ = s at p0 p1 p2 q0 q1 q2
      obtain ⟨x, y, z⟩ := s
      go_wp2_with fail
      go_still_tail 10, (by kernel_rfl)
      change wpList _ _ _ _ _ wr.drew
      have hnx1 : Nx W wr.drew := Below.drew hnx
      generalize wr.drew = wd at *
      go_wp2
      go_roundw
      case rel => exact ⟨k + 1, by omega, by go_num, hnx1⟩
      case measure => simp [intOf]; omega
    · go_wp2
      go_ret
      exact ⟨rfl, hx0.trans hnx⟩
/-- at: which number. -/
def atP (ys : List Nat) (n i m : Nat) : Nat := if n = 0 then i * 7 % m else (ys.getD (i % n) 0 * 31 + ys.getD ((i + 1) % n) 0 + i / n) % m
theorem atP_lt (ys : List Nat) (n i : Nat) {m : Nat} (hm : 0 < m) : atP ys n i m < m := by
  unfold atP; split <;> exact Nat.mod_lt _ hm
set_option maxRecDepth 100000 in
set_option maxHeartbeats 1000000 in
theorem atP_c (A : Option Addr) (n c i m B : Nat) (ys : List Nat) (w : World) (h : U8s w B A n ys) (hB : B ≤ w.heap.size) (hn : n ≤ 1048576) (hi : i ≤ 1000) (hm : 2 ≤ m) (hm2 : m ≤ 100000) :
    Calls Try.prog 45 #[.slice A n c, .int .i64 i, .int .i64 m] w fun e w' => e = .returned (.int .i64 ((atP ys n i m : Nat) : Int)) ∧ Nx w w' := by
  by_cases h0 : n = 0
  · subst h0
    go_enter Try.func45, Try.ntmps45
    go_wp2
    go_ret
    exact ⟨ret_int (by rw [show atP ys 0 i m = i * 7 % m from rfl, show (i : Int) * 7 = ((i * 7 : Nat) : Int) by omega, ← Int.natCast_emod]), Nx.refl _⟩
  · have hj : i % n < n := Nat.mod_lt _ (by omega)
    have hj2 : (i + 1) % n < n := Nat.mod_lt _ (by omega)
    have e1 : (i : Int).tmod (n : Int) = ((i % n : Nat) : Int) := by rw [Int.tmod_eq_emod_of_nonneg (by omega), ← Int.natCast_emod]
    have e2 : ((i : Int) + 1).tmod (n : Int) = (((i + 1) % n : Nat) : Int) := by rw [show (i : Int) + 1 = ((i + 1 : Nat) : Int) by omega, Int.tmod_eq_emod_of_nonneg (by omega), ← Int.natCast_emod]
    have e3 : (i : Int).tdiv (n : Int) = ((i / n : Nat) : Int) := by rw [Int.tdiv_eq_ediv_of_nonneg (by omega), ← Int.natCast_ediv]
    have hd : i / n ≤ 1000 := Nat.le_trans (Nat.div_le_self _ _) hi
    obtain ⟨b, off, rfl, hb, p0⟩ := h.at_ hj
    obtain ⟨b2, off2, hE, hb2, q0⟩ := h.at_ hj2
    injection hE with hE
    injection hE with hE1 hE2
    subst hE1 hE2
    have HA : Hid (atP ys n i m = (ys.getD (i % n) 0 * 31 + ys.getD ((i + 1) % n) 0 + i / n) % m) := Lib.hid (by unfold atP; rw [if_neg h0])
    obtain ⟨aa, Haa⟩ : ∃ a, Hid (atP ys n i m = a) := ⟨_, rfl⟩
    rw [Haa.out] at HA
    have hy := h.2.1 (i % n)
    have hy2 := h.2.1 ((i + 1) % n)
    generalize ys.getD (i % n) 0 = y at *
    generalize ys.getD ((i + 1) % n) 0 = y2 at *
    generalize i % n = j at *
    generalize (i + 1) % n = j2 at *
    generalize i / n = d at *
    have e4 : ((y : Int) * 31 + (y2 : Int) + (d : Int)).tmod (m : Int) = (((y * 31 + y2 + d) % m : Nat) : Int) := by rw [Int.tmod_eq_emod_of_nonneg (by omega), show (y : Int) * 31 + (y2 : Int) + (d : Int) = ((y * 31 + y2 + d : Nat) : Int) by omega, ← Int.natCast_emod]
    have e5 : ((y : Int) * 31 + (y2 : Int) + (d : Int)) % (m : Int) = (((y * 31 + y2 + d) % m : Nat) : Int) := by rw [show (y : Int) * 31 + (y2 : Int) + (d : Int) = ((y * 31 + y2 + d : Nat) : Int) by omega, ← Int.natCast_emod]
    obtain ⟨z, Hz⟩ : ∃ z, Hid ((y * 31 + y2 + d) % m = z) := ⟨_, rfl⟩
    have hz : z < m := by rw [← Hz.out]; exact Nat.mod_lt _ (by omega)
    rw [Hz.out] at e4 e5 HA
    have k1 : IntKind.i64.wrap (j : Int) = j := IntWalk.i64_in _ (by omega)
    have k2 : IntKind.i64.wrap (j2 : Int) = j2 := IntWalk.i64_in _ (by omega)
    have k3 : IntKind.i64.wrap (d : Int) = d := IntWalk.i64_in _ (by omega)
    have k4 : IntKind.i64.wrap (z : Int) = z := IntWalk.i64_in _ (by omega)
    have k5 : IntKind.i64.wrap (y : Int) = y := IntWalk.i64_in _ (by omega)
    have k6 : IntKind.i64.wrap (y2 : Int) = y2 := IntWalk.i64_in _ (by omega)
    have k7 : IntKind.i64.wrap ((y : Int) * 31) = (y : Int) * 31 := IntWalk.i64_in _ (by omega)
    have k8 : IntKind.i64.wrap ((y : Int) * 31 + (y2 : Int)) = (y : Int) * 31 + (y2 : Int) := IntWalk.i64_in _ (by omega)
    have k9 : IntKind.i64.wrap ((y : Int) * 31 + (y2 : Int) + (d : Int)) = (y : Int) * 31 + (y2 : Int) + (d : Int) := IntWalk.i64_in _ (by omega)
    have k0 : IntKind.i64.wrap ((i : Int) + 1) = (i : Int) + 1 := IntWalk.i64_in _ (by omega)
    have n0 : ((n : Int) == 0) = false := by rw [beq_eq_false_iff_ne]; omega
    have m0 : ((m : Int) == 0) = false := by rw [beq_eq_false_iff_ne]; omega
    have n1 : ¬ (n : Int) = 0 := by omega
    have m1 : ¬ (m : Int) = 0 := by omega
    have m2 : ¬ m = 0 := by omega
    have l1 : (j : Int) < (n : Int) := by omega
    have l2 : (j2 : Int) < (n : Int) := by omega
    go_enter Try.func45, Try.ntmps45
    go_wp2
    refine wp_region_lex [false, false, false, false, false, false, false, false, false, false, false, false, false, false, false, false, false, false, false, false, false, false, false, false, false, false, false] (fun w' => w'.cell? ⟨b, off + j, none⟩ = some (.int .u8 (y : Int)) ∧ w'.cell? ⟨b, off + j2, none⟩ = some (.int .u8 (y2 : Int))) (by kernel_rfl) (by kernel_rfl) rfl (by kernel_rfl) (fun _ _ d _ _ h => by cases d <;> exact h) (by exact ⟨p0, q0⟩) ?_
    repeat (first | (refine HL.take (v := ?_) (by rfl) ?_ ?_; rotate_left; (· (intro w hSw; (try dsimp only at hSw); go_simp; try with_reducible rfl)); (try simp only [Act.put, List.setIfInBounds_toArray, List.set_cons_zero, List.set_cons_succ])) | (refine HL.skip (by rfl) ?_; (try simp only [Act.put, List.setIfInBounds_toArray, List.set_cons_zero, List.set_cons_succ])))
    refine HL.done ?_
    go_wp2
    go_ret
    exact ⟨ret_int (by rw [Haa.out, HA.out]), Below.drew (Nx.refl w)⟩

set_option maxHeartbeats 1000000 in
theorem sameInts_c (A A2 : Option Addr) (c c2 B : Nat) (xs : List Int) (w : World) (h : Ins w B A xs) (h2 : Ins w B A2 xs) (hB : B ≤ w.heap.size) (hn : xs.length ≤ 1048576) :
    Calls Try.prog 31 #[.slice A xs.length c, .slice A2 xs.length c2] w fun e w' => e = .returned (.bool true) ∧ Nx w w' := by
  go_enter Try.func31, Try.ntmps31
  go_wp2
  go_loopw [5] (fun i wr => ∃ k : Nat, k ≤ xs.length ∧ i = .int .i64 k ∧ Nx w wr) (fun i _ => xs.length - (intOf i).toNat)
  case atStart => exact ⟨0, Nat.zero_le _, rfl, Nx.refl _⟩
  case round =>
    obtain ⟨k, hk, rfl, hnx⟩ := hrel
    by_cases hlt : k < xs.length
    · obtain ⟨b, off, rfl, hb, hc⟩ := (h.below hnx hB).at_ hlt
      obtain ⟨b2, off2, rfl, hb2, hc2⟩ := (h2.below hnx hB).at_ hlt
      generalize xs.getD k 0 = s at hc hc2
      go_wp2
      go_quiet (fail)
      go_wp2
      go_roundw
      case rel => exact ⟨k + 1, by omega, by go_num, hnx.drewN _⟩
      case measure => simp [intOf]; omega
    · go_wp2
      go_ret
      exact ⟨rfl, hnx⟩
set_option maxHeartbeats 1000000 in
theorem contentDrawn_c (A : Option Addr) (n c : Nat) (ys : List Nat) (w : World) (h : U8s w w.heap.size A n ys) (hn : n ≤ 1048576) :
    Calls Try.prog 34 #[.slice A n c] w fun e w' => ∃ A' c' xs, e = .returned (.slice A' 8 c') ∧ xs.length = 8 ∧ Sm xs ∧ SlI w' w.heap.size A' xs ∧ Nx w w' := by
  go_enter Try.func34, Try.ntmps34
  go_wp2_with fail
  refine (l00Source_c A n c _ hn).mono ?_
  rintro e w1 ⟨rfl, s1, hnx1⟩
  have u1 := h.below hnx1 (Nat.le_refl _)
  go_wp2_with fail
  refine (content_c w.heap.size A n c w.heap.size 0 ys _ ⟨0, n % 1000, by omega, by omega, s1⟩ u1 (Nat.le_refl _) hn (by omega)).mono ?_
  rintro e w2 ⟨A', c', xs, rfl, hl, hsm, hS, _, hr⟩
  have HL := Lib.hid hl
  have HS := Lib.hid hS
  clear hl hS
  go_wp2
  go_ret
  exact ⟨A', c', xs, rfl, HL.out, hsm, HS.out.low hnx1.size, Rg.nx_of hnx1 hr (Nat.le_refl _)⟩
end Go.Proofs.Ytjefjngheolmkaa
/- What SegOf, Forward, Backward and MergeSegs answer of what is right; two writes put together. Conditions: those of each theorem. -/
namespace Go.Proofs.Ytjefjngheolmkaa
set_option linter.unusedVariables false
set_option maxRecDepth 100000
open Go.RowKit

theorem askC_yes {xs : List Int} {ok : Bool} (h : contB xs = true) (hk : ok = true) : askC xs ok = 0 := by
  unfold askC
  rw [if_neg (by have := (contB_yes h).1; omega), h, hk]; rfl
theorem len8 {xs : List Int} (h : contB xs = true) : xs.length ≤ 1048576 := by have := (contB_yes h).1; omega
theorem segOf_yes (A : Option Addr) (c B : Nat) (xs : List Int) (p b v t : Int) (w : World) (h : Ins w B A xs) (hB : B ≤ w.heap.size) (hc : contB xs = true) (hf : frameB p b v t = true) :
    Calls Try.prog 18 #[.slice A 8 c, .agg #[.int .i64 p, .int .i64 b, .int .i64 v, .int .i64 t]] w fun e w' =>
      ∃ A9 c9, e = .returned (.tuple #[.agg #[.int .i64 (p - 1), .int .i64 p, .int .i64 t, .slice A9 1 c9], .int .i64 0]) ∧ Sl w' w.heap.size A9 75 3 (chAt [(b, v, xs.getD b.toNat 0)]) ∧ Nx w w' := by
  have h8 := (contB_yes hc).1
  have := implSegOf_c A c B xs p b v t w h hB (len8 hc)
  rw [h8] at this
  refine this.mono fun e w' hR => ?_
  exact hR.un (show sgFr xs p b v t = ofW xs p b v t from if_pos (by rw [hc, hf]; rfl)) (askC_yes hc hf)
theorem forward_yes (A : Option Addr) (c B : Nat) (xs : List Int) (f t m : Int) (A2 : Option Addr) (c2 n : Nat) (cs : List Chg) (w : World) (hl : cs.length = n) (h : Ins w B A xs) (hg : Chs w B A2 cs) (hB : B ≤ w.heap.size) (hc : contB xs = true) (hs : segB f t m cs = true) :
    Calls Try.prog 36 #[.slice A 8 c, .agg #[.int .i64 f, .int .i64 t, .int .i64 m, .slice A2 n c2]] w fun e w' =>
      ∃ A9 c9, e = .returned (.tuple #[.slice A9 8 c9, .int .i64 0]) ∧ SlI w' w.heap.size A9 (app pN xs cs) ∧ Nx w w' := by
  subst hl
  have h8 := (contB_yes hc).1
  have := implForward_c A c B xs f t m A2 c2 cs w h hg hB (len8 hc) (by have := chsB_len (segB_chs hs); omega)
  rw [h8] at this
  refine this.mono fun e w' hR => ?_
  rw [askC_yes hc hs, fwV_yes (by rw [hc, hs]; rfl)] at hR
  obtain ⟨A9, c9, h1, h2, h3⟩ := hR
  exact ⟨A9, c9, by rw [h1, app_len, h8], h2, h3⟩
theorem backward_yes (A : Option Addr) (c B : Nat) (xs : List Int) (f t m : Int) (A2 : Option Addr) (c2 n : Nat) (cs : List Chg) (w : World) (hl : cs.length = n) (h : Ins w B A xs) (hg : Chs w B A2 cs) (hB : B ≤ w.heap.size) (hc : contB xs = true) (hs : segB f t m cs = true) :
    Calls Try.prog 38 #[.slice A 8 c, .agg #[.int .i64 f, .int .i64 t, .int .i64 m, .slice A2 n c2]] w fun e w' =>
      ∃ A9 c9, e = .returned (.tuple #[.slice A9 8 c9, .int .i64 0]) ∧ SlI w' w.heap.size A9 (app pO xs cs) ∧ Nx w w' := by
  subst hl
  have h8 := (contB_yes hc).1
  have := implBackward_c A c B xs f t m A2 c2 cs w h hg hB (len8 hc) (by have := chsB_len (segB_chs hs); omega)
  rw [h8] at this
  refine this.mono fun e w' hR => ?_
  rw [askC_yes hc hs, fwV_yes (by rw [hc, hs]; rfl)] at hR
  obtain ⟨A9, c9, h1, h2, h3⟩ := hR
  exact ⟨A9, c9, by rw [h1, app_len, h8], h2, h3⟩
theorem cases8 {n : Nat} (h : n < 8) : n = 0 ∨ n = 1 ∨ n = 2 ∨ n = 3 ∨ n = 4 ∨ n = 5 ∨ n = 6 ∨ n = 7 := by omega
/-- Two writes put together: the changes. -/
def two (b b2 : Nat) (v o v2 o2 : Int) : List Chg := if b = b2 then [((b : Int), v2, o)] else if b < b2 then [((b : Int), v, o), ((b2 : Int), v2, o2)] else [((b2 : Int), v2, o2), ((b : Int), v, o)]
theorem mrg_two {b b2 : Nat} (hb : b < 8) (hb2 : b2 < 8) (v o v2 o2 : Int) : mrgC [((b : Int), v, o)] [((b2 : Int), v2, o2)] = two b b2 v o v2 o2 := by
  rcases cases8 hb with rfl | rfl | rfl | rfl | rfl | rfl | rfl | rfl <;> rcases cases8 hb2 with rfl | rfl | rfl | rfl | rfl | rfl | rfl | rfl <;> rfl
theorem inB_of {a lo hi : Int} (h1 : lo ≤ a) (h2 : a ≤ hi) : inB lo hi a = true := inB_mk h1 h2
theorem ch_one {b v o : Int} (h : chB (b, v, o) = true) : chsB [(b, v, o)] = true := OkTo.all fun j hj => by
  obtain rfl : j = 0 := by simp at hj; omega
  unfold okCh
  show (chB (b, v, o) && _) = true
  rw [h]; rfl
theorem ch_two {c d : Chg} (h : chB c = true) (h2 : chB d = true) (hlt : c.1 < d.1) : chsB [c, d] = true := OkTo.all fun j hj => by
  have : j = 0 ∨ j = 1 := by simp at hj; omega
  unfold okCh
  rcases this with rfl | rfl
  · show (chB c && _) = true
    rw [h]; rfl
  · show (chB d && ((1 : Nat) == 0 || decide (c.1 < d.1))) = true
    rw [h2, decide_eq_true hlt]; rfl
theorem chB_mk {b v o : Int} (h0 : 0 ≤ b) (h1 : b ≤ 7) (h2 : 0 ≤ v) (h3 : v ≤ 999999) (h4 : 0 ≤ o) (h5 : o ≤ 999999) : chB (b, v, o) = true := by
  unfold chB
  rw [inB_mk h0 h1, inB_mk h2 h3, inB_mk h4 h5]; rfl
theorem two_ok {b b2 : Nat} (hb : b < 8) (hb2 : b2 < 8) {v o v2 o2 : Int} (h0 : 0 ≤ v) (h1 : v ≤ 999999) (h2 : 0 ≤ o) (h3 : o ≤ 999999) (h4 : 0 ≤ v2) (h5 : v2 ≤ 999999) (h6 : 0 ≤ o2) (h7 : o2 ≤ 999999) : chsB (two b b2 v o v2 o2) = true := by
  unfold two
  split
  · exact ch_one (chB_mk (by omega) (by omega) h4 h5 h2 h3)
  · split
    · exact ch_two (chB_mk (by omega) (by omega) h0 h1 h2 h3) (chB_mk (by omega) (by omega) h4 h5 h6 h7) (by simp only; omega)
    · exact ch_two (chB_mk (by omega) (by omega) h4 h5 h6 h7) (chB_mk (by omega) (by omega) h0 h1 h2 h3) (by simp only; omega)
theorem app_one (p : Chg → Int) (xs : List Int) (b : Nat) (v o : Int) : app p xs [((b : Int), v, o)] = xs.set b (p ((b : Int), v, o)) := by
  show xs.set ((b : Int)).toNat _ = _
  rw [Int.toNat_natCast]
theorem app_two (p : Chg → Int) (xs : List Int) (b b2 : Nat) (v o v2 o2 : Int) : app p xs [((b : Int), v, o), ((b2 : Int), v2, o2)] = (xs.set b (p ((b : Int), v, o))).set b2 (p ((b2 : Int), v2, o2)) := by
  show (xs.set ((b : Int)).toNat _).set ((b2 : Int)).toNat _ = _
  rw [Int.toNat_natCast, Int.toNat_natCast]
theorem getD_set_self {xs : List Int} {b : Nat} (h : b < xs.length) (v : Int) : (xs.set b v).getD b 0 = v := by
  rw [List.getD_eq_getElem?_getD, List.getElem?_set]; simp [h]
theorem getD_set_ne {xs : List Int} {b b2 : Nat} (h : b ≠ b2) (v : Int) : (xs.set b v).getD b2 0 = xs.getD b2 0 := by
  rw [List.getD_eq_getElem?_getD, List.getD_eq_getElem?_getD, List.getElem?_set_ne h]
theorem set_getD {xs : List Int} {b : Nat} (h : b < xs.length) : xs.set b (xs.getD b 0) = xs := by
  rw [List.getD_eq_getElem?_getD, List.getElem?_eq_getElem h]
  exact List.set_getElem_self h
/-- Forwards it does what both do. -/
theorem two_new (xs : List Int) (b b2 : Nat) (v o v2 o2 : Int) : app pN xs (two b b2 v o v2 o2) = (xs.set b v).set b2 v2 := by
  unfold two
  split
  · rename_i h
    subst h
    rw [app_one]
    show xs.set b v2 = _
    rw [List.set_set]
  · rename_i h
    split
    · rw [app_two]; rfl
    · rw [app_two]
      show (xs.set b2 v2).set b v = _
      rw [List.set_comm _ _ (fun e => h e.symm)]
/-- .. and back. -/
theorem two_old {xs : List Int} {b b2 : Nat} (hb : b < xs.length) (hb2 : b2 < xs.length) (v v2 : Int) : app pO ((xs.set b v).set b2 v2) (two b b2 v (xs.getD b 0) v2 ((xs.set b v).getD b2 0)) = xs := by
  unfold two
  split
  · rename_i h
    subst h
    rw [app_one]
    show ((xs.set b v).set b v2).set b (xs.getD b 0) = xs
    rw [List.set_set, List.set_set, set_getD hb]
  · rename_i h
    rw [getD_set_ne h]
    have e : ((((xs.set b v).set b2 v2).set b (xs.getD b 0)).set b2 (xs.getD b2 0)) = xs := by
      rw [List.set_comm _ _ (fun e => h e.symm), List.set_set, List.set_set, set_getD hb, set_getD hb2]
    split
    · rw [app_two]; exact e
    · rw [app_two]
      show (((xs.set b v).set b2 v2).set b2 (xs.getD b2 0)).set b (xs.getD b 0) = xs
      rw [List.set_comm _ _ (fun e => h e.symm)]; exact e
theorem cont_set {xs : List Int} {b : Nat} {v : Int} (h : contB xs = true) (h0 : 0 ≤ v) (h1 : v ≤ 999999) : contB (xs.set b v) = true := by
  obtain ⟨h8, hv⟩ := contB_yes h
  refine contB_mk (by rw [List.length_set]; exact h8) fun j hj => ?_
  rw [List.length_set] at hj
  by_cases e : b = j
  · subst e; rw [getD_set_self hj]; exact inB_mk h0 h1
  · rw [getD_set_ne e]; have := hv j (by omega); exact inB_mk this.1 this.2
theorem frameB_mk {p b v t : Int} (h1 : 1 ≤ p) (h2 : p ≤ 999999) (h3 : 0 ≤ b) (h4 : b ≤ 7) (h5 : 0 ≤ v) (h6 : v ≤ 999999) (h7 : 0 ≤ t) (h8 : t ≤ 999999) : frameB p b v t = true := by
  unfold frameB; rw [inB_mk h1 h2, inB_mk h3 h4, inB_mk h5 h6, inB_mk h7 h8]; rfl
/-- All that FnMerge's values are. -/
structure MV (xs : List Int) (p b v t b2 v2 t2 : Nat) (o o2 : Int) (x1 y1 : List Int) (qs : List Chg) : Prop where
  o_ : xs.getD b 0 = o
  o2_ : x1.getD b2 0 = o2
  f1 : frameB (p : Int) (b : Int) (v : Int) (t : Int) = true
  f2 : frameB ((p : Int) + 1) (b2 : Int) (v2 : Int) (t2 : Int) = true
  c1 : contB x1 = true
  c2 : contB y1 = true
  s1 : segB ((p : Int) - 1) (p : Int) (t : Int) [((b : Int), (v : Int), o)] = true
  s2 : segB (p : Int) ((p : Int) + 1) (t2 : Int) [((b2 : Int), (v2 : Int), o2)] = true
  s3 : segB ((p : Int) - 1) ((p : Int) + 1) (t2 : Int) qs = true
  e1 : app pN xs [((b : Int), (v : Int), o)] = x1
  e2 : app pN x1 [((b2 : Int), (v2 : Int), o2)] = y1
  e3 : app pN xs qs = y1
  e4 : app pO y1 qs = xs
  g1 : mgSg ((p : Int) - 1) (p : Int) (t : Int) [((b : Int), (v : Int), o)] (p : Int) ((p : Int) + 1) (t2 : Int) [((b2 : Int), (v2 : Int), o2)] = ((p : Int) - 1, (p : Int) + 1, (t2 : Int), qs)
  g2 : mgCd ((p : Int) - 1) (p : Int) (t : Int) [((b : Int), (v : Int), o)] (p : Int) ((p : Int) + 1) (t2 : Int) [((b2 : Int), (v2 : Int), o2)] = 0
  g3 : mgSg (p : Int) ((p : Int) + 1) (t2 : Int) [((b2 : Int), (v2 : Int), o2)] ((p : Int) - 1) (p : Int) (t : Int) [((b : Int), (v : Int), o)] = (0, 0, 0, [])
  g4 : mgCd (p : Int) ((p : Int) + 1) (t2 : Int) [((b2 : Int), (v2 : Int), o2)] ((p : Int) - 1) (p : Int) (t : Int) [((b : Int), (v : Int), o)] = 17
  y_ : y1.getD b2 0 = (v2 : Int)
  q8 : qs.length ≤ 8
theorem mv {xs : List Int} {p b v t b2 v2 t2 : Nat} (hc : contB xs = true) (h : 1 ≤ p ∧ p ≤ 20 ∧ b < 8 ∧ v < 900 ∧ t < 200) (h2 : b2 < 8 ∧ v2 < 900 ∧ t2 < 200) : ∃ o o2 x1 y1 qs, MV xs p b v t b2 v2 t2 o o2 x1 y1 qs := by
  obtain ⟨h8, hv⟩ := contB_yes hc
  have hc1 := cont_set (b := b) (v := (v : Int)) hc (by omega) (by omega)
  have hc2 := cont_set (b := b2) (v := (v2 : Int)) hc1 (by omega) (by omega)
  obtain ⟨h81, hv1⟩ := contB_yes hc1
  have ho := hv b (by omega)
  have ho2 := hv1 b2 (by omega)
  have hk := two_ok (b := b) (b2 := b2) (v := (v : Int)) (o := xs.getD b 0) (v2 := (v2 : Int)) (o2 := (xs.set b (v : Int)).getD b2 0) (by omega) (by omega) (by omega) (by omega) ho.1 ho.2 (by omega) (by omega) ho2.1 ho2.2
  have s1 : segB ((p : Int) - 1) (p : Int) (t : Int) [((b : Int), (v : Int), xs.getD b 0)] = true := segB_mk (by omega) (by omega) (by omega) (inB_mk (by omega) (by omega)) (ch_one (chB_mk (by omega) (by omega) (by omega) (by omega) ho.1 ho.2))
  have s2 : segB (p : Int) ((p : Int) + 1) (t2 : Int) [((b2 : Int), (v2 : Int), (xs.set b (v : Int)).getD b2 0)] = true := segB_mk (by omega) (by omega) (by omega) (inB_mk (by omega) (by omega)) (ch_one (chB_mk (by omega) (by omega) (by omega) (by omega) ho2.1 ho2.2))
  have hm1 := mg_yes (f := (p : Int) - 1) (t := (p : Int)) (m := (t : Int)) (l1 := [((b : Int), (v : Int), xs.getD b 0)]) (f2 := (p : Int)) (t2 := (p : Int) + 1) (m2 := (t2 : Int)) (l2 := [((b2 : Int), (v2 : Int), (xs.set b (v : Int)).getD b2 0)]) (by unfold mgB; rw [s1, s2]; rfl) rfl
  have hm2 := mg_gap (f := (p : Int)) (t := (p : Int) + 1) (m := (t2 : Int)) (l1 := [((b2 : Int), (v2 : Int), (xs.set b (v : Int)).getD b2 0)]) (f2 := (p : Int) - 1) (t2 := (p : Int)) (m2 := (t : Int)) (l2 := [((b : Int), (v : Int), xs.getD b 0)]) (by unfold mgB; rw [s1, s2]; rfl) (by omega)
  refine ⟨xs.getD b 0, (xs.set b (v : Int)).getD b2 0, xs.set b (v : Int), (xs.set b (v : Int)).set b2 (v2 : Int), two b b2 (v : Int) (xs.getD b 0) (v2 : Int) ((xs.set b (v : Int)).getD b2 0), ⟨rfl, rfl, frameB_mk (by omega) (by omega) (by omega) (by omega) (by omega) (by omega) (by omega) (by omega), frameB_mk (by omega) (by omega) (by omega) (by omega) (by omega) (by omega) (by omega) (by omega), hc1, hc2, s1, s2,
    segB_mk (by omega) (by omega) (by omega) (inB_mk (by omega) (by omega)) hk, app_one _ _ _ _ _, app_one _ _ _ _ _, two_new _ _ _ _ _ _ _, two_old (by omega) (by omega) _ _, by rw [hm1.2, mrg_two (by omega) (by omega)], hm1.1, hm2.2, hm2.1, getD_set_self (by omega) _, chsB_len hk⟩⟩
end Go.Proofs.Ytjefjngheolmkaa
/- Words on lists of segments in memory; contracts of the laws' functions that count, copy and compare such lists; a list that comes in, opened. Conditions: what is read can be read; copied or compared: at most 1048576 of each. -/
namespace Go.Proofs.Ytjefjngheolmkaa
set_option linter.unusedVariables false
set_option maxRecDepth 100000
open Go.Joins Go.ChangeShapes Go.WideShapes Go.RowKit Go.Deep

/-- A segment in memory: from, to, time, where its changes lie, their capacity, the changes. -/
structure SgR where
  f : Int
  t : Int
  m : Int
  A : Option Addr
  c : Nat
  cs : List Chg
def sgZ : SgR := ⟨0, 0, 0, none, 0, []⟩
def SgR.v (g : SgR) : Sg4 := (g.f, g.t, g.m, g.cs)
def sgAt (gs : List SgR) (i : Nat) : Value :=
  if i % 4 = 0 then .int .i64 (gs.getD (i / 4) sgZ).f else if i % 4 = 1 then .int .i64 (gs.getD (i / 4) sgZ).t else if i % 4 = 2 then .int .i64 (gs.getD (i / 4) sgZ).m else .slice (gs.getD (i / 4) sgZ).A (gs.getD (i / 4) sgZ).cs.length (gs.getD (i / 4) sgZ).c
theorem sgAt0 (gs : List SgR) (k : Nat) : sgAt gs (k * 4) = .int .i64 (gs.getD k sgZ).f := by
  unfold sgAt; rw [if_pos (by omega), show k * 4 / 4 = k by omega]
theorem sgAt1 (gs : List SgR) (k : Nat) : sgAt gs (k * 4 + 1) = .int .i64 (gs.getD k sgZ).t := by
  unfold sgAt; rw [if_neg (by omega), if_pos (by omega), show (k * 4 + 1) / 4 = k by omega]
theorem sgAt2 (gs : List SgR) (k : Nat) : sgAt gs (k * 4 + 2) = .int .i64 (gs.getD k sgZ).m := by
  unfold sgAt; rw [if_neg (by omega), if_neg (by omega), if_pos (by omega), show (k * 4 + 2) / 4 = k by omega]
theorem sgAt3 (gs : List SgR) (k : Nat) : sgAt gs (k * 4 + 3) = .slice (gs.getD k sgZ).A (gs.getD k sgZ).cs.length (gs.getD k sgZ).c := by
  unfold sgAt; rw [if_neg (by omega), if_neg (by omega), if_neg (by omega), show (k * 4 + 3) / 4 = k by omega]
theorem sgAt_app (gs hs : List SgR) (i : Nat) (h : i < gs.length * 4) : sgAt (gs ++ hs) i = sgAt gs i := by
  have e : (gs ++ hs).getD (i / 4) sgZ = gs.getD (i / 4) sgZ := by
    rw [List.getD_eq_getElem?_getD, List.getD_eq_getElem?_getD, List.getElem?_append_left (by omega)]
  unfold sgAt; rw [e]
theorem getD_app (gs : List SgR) (g : SgR) : (gs ++ [g]).getD gs.length sgZ = g := by
  rw [List.getD_eq_getElem?_getD, List.getElem?_append_right (Nat.le_refl _)]; simp
theorem getD_app_lt (gs : List SgR) (g : SgR) {k : Nat} (h : k < gs.length) : (gs ++ [g]).getD k sgZ = gs.getD k sgZ := by
  rw [List.getD_eq_getElem?_getD, List.getD_eq_getElem?_getD, List.getElem?_append_left h]
theorem v_at {gs hs : List SgR} (h : gs.map SgR.v = hs.map SgR.v) (k : Nat) : (gs.getD k sgZ).v = (hs.getD k sgZ).v := by
  have e : (gs.map SgR.v)[k]? = (hs.map SgR.v)[k]? := by rw [h]
  rw [List.getElem?_map, List.getElem?_map] at e
  rw [List.getD_eq_getElem?_getD, List.getD_eq_getElem?_getD]
  cases h1 : gs[k]? <;> cases h2 : hs[k]? <;> rw [h1, h2] at e <;> simp at e
  · exact e
theorem v_len {gs hs : List SgR} (h : gs.map SgR.v = hs.map SgR.v) : gs.length = hs.length := by
  have := congrArg List.length h
  simpa using this
/-- A list of segments that is read. -/
structure Sgs (w : World) (B : Nat) (A : Option Addr) (gs : List SgR) : Prop where
  row : Row w B A (gs.length * 4) (sgAt gs)
  chs : ∀ k, k < gs.length → Chs w B (gs.getD k sgZ).A (gs.getD k sgZ).cs
theorem Sgs.below {w w' : World} {B B' : Nat} {A : Option Addr} {gs : List SgR} (h : Sgs w B A gs) (hb : Below B' w w') (hB : B ≤ B') : Sgs w' B A gs := ⟨h.row.below hb hB, fun k hk => (h.chs k hk).below hb hB⟩
theorem Row.at4 {w : World} {B k : Nat} {A : Option Addr} {gs : List SgR} (h : Row w B A (gs.length * 4) (sgAt gs)) (hk : k < gs.length) :
    ∃ b off, A = some ⟨b, off, none⟩ ∧ b < B ∧ w.cell? ⟨b, off + k * 4, none⟩ = some (.int .i64 (gs.getD k sgZ).f) ∧ w.cell? ⟨b, off + k * 4 + 1, none⟩ = some (.int .i64 (gs.getD k sgZ).t) ∧ w.cell? ⟨b, off + k * 4 + 2, none⟩ = some (.int .i64 (gs.getD k sgZ).m)
      ∧ w.cell? ⟨b, off + k * 4 + 3, none⟩ = some (.slice (gs.getD k sgZ).A (gs.getD k sgZ).cs.length (gs.getD k sgZ).c) := by
  obtain ⟨b, off, e, hb, hc⟩ := h (by omega)
  have h0 := hc (k * 4) (by omega)
  have h1 := hc (k * 4 + 1) (by omega)
  have h2 := hc (k * 4 + 2) (by omega)
  have h3 := hc (k * 4 + 3) (by omega)
  rw [sgAt0] at h0
  rw [sgAt1] at h1
  rw [sgAt2] at h2
  rw [sgAt3] at h3
  exact ⟨b, off, e, hb, h0, h1, h2, h3⟩
/-- A list of segments in blocks of the call's own. -/
structure SgO (w : World) (lo : Nat) (A : Option Addr) (gs : List SgR) : Prop where
  row : Sl w lo A 30 (gs.length * 4) (sgAt gs)
  chs : ∀ k, k < gs.length → Sl w lo (gs.getD k sgZ).A 75 ((gs.getD k sgZ).cs.length * 3) (chAt (gs.getD k sgZ).cs)
theorem SgO.nx {w w' : World} {lo : Nat} {A : Option Addr} {gs : List SgR} (h : SgO w lo A gs) (hb : Nx w w') : SgO w' lo A gs := ⟨h.row.nx hb, fun k hk => (h.chs k hk).nx hb⟩
theorem SgO.low {w : World} {lo lo' : Nat} {A : Option Addr} {gs : List SgR} (h : SgO w lo A gs) (hl : lo' ≤ lo) : SgO w lo' A gs := ⟨h.row.low hl, fun k hk => (h.chs k hk).low hl⟩
theorem SgO.sgs {w : World} {lo : Nat} {A : Option Addr} {gs : List SgR} (h : SgO w lo A gs) : Sgs w w.heap.size A gs := ⟨h.row.row, fun k hk => (h.chs k hk).row⟩
/-- How many changes the first k have. -/
def ssum (gs : List SgR) (k : Nat) : Nat := ((gs.take k).map fun g => g.cs.length).sum
theorem ssum_zero (gs : List SgR) : ssum gs 0 = 0 := rfl
theorem ssum_succ {gs : List SgR} {k : Nat} (hk : k < gs.length) : ssum gs (k + 1) = ssum gs k + (gs.getD k sgZ).cs.length := by
  unfold ssum
  rw [List.take_succ_eq_append_getElem hk, List.map_append, List.sum_append, List.getD_eq_getElem?_getD, List.getElem?_eq_getElem hk]
  simp
theorem ssum_le {gs : List SgR} {j k : Nat} (h : j ≤ k) (hk : k ≤ gs.length) : ssum gs j ≤ ssum gs k := by
  induction k with
  | zero => rw [show j = 0 by omega]; exact Nat.le_refl _
  | succ k ih =>
    by_cases e : j = k + 1
    · rw [e]; exact Nat.le_refl _
    · have := ih (by omega) (by omega)
      rw [ssum_succ (by omega)]; omega
theorem ssum_one {gs : List SgR} {k : Nat} (hk : k < gs.length) : (gs.getD k sgZ).cs.length ≤ ssum gs gs.length := by
  have h1 := ssum_succ hk
  have h2 := ssum_le (gs := gs) (j := k + 1) (k := gs.length) (by omega) (Nat.le_refl _)
  omega

end Go.Proofs.Ytjefjngheolmkaa
/- Contracts of the laws' functions that copy and compare lists of segments; a list of segments that comes in, opened. Conditions: what is read can be read; copied or compared: at most 1048576 of each. -/
namespace Go.Proofs.Ytjefjngheolmkaa
set_option linter.unusedVariables false
set_option maxRecDepth 100000
open Go.Joins Go.ChangeShapes Go.WideShapes Go.RowKit Go.Deep

theorem info_sg : (Try.prog.info? 30).map (fun i => (i.zero, i.size, i.bytes)) = some (some (.agg #[.int .i64 0, .int .i64 0, .int .i64 0, .slice none 0 0]), 4, 48) := by kernel_rfl
theorem Fill.congr {w : World} {g : Nat} {t : TypeId} {m k : Nat} {F F' : Nat → Value} (h : Fill w g t m k F) (hf : ∀ i, i < k → F i = F' i) : Fill w g t m k F' := by
  obtain ⟨f, h, hF⟩ := h
  exact ⟨f, h, fun i hi => (hF i hi).trans (hf i hi)⟩
/-- What a function leaves that answers a list of segments in new memory. -/
def RetGs (w : World) (gs : List SgR) (e : Ending) (w' : World) : Prop := ∃ (A : Option Addr) (c : Nat) (gs' : List SgR), e = .returned (.slice A gs'.length c) ∧ gs'.map SgR.v = gs.map SgR.v ∧ SgO w' w.heap.size A gs' ∧ Nx w w'
set_option maxRecDepth 100000 in
set_option maxHeartbeats 2000000 in
/-- .. with room for what it holds. -/
def RetGsc (w : World) (gs : List SgR) (e : Ending) (w' : World) : Prop := ∃ (A : Option Addr) (c : Nat) (gs' : List SgR), e = .returned (.slice A gs'.length c) ∧ gs'.map SgR.v = gs.map SgR.v ∧ gs'.length ≤ c ∧ SgO w' w.heap.size A gs' ∧ Nx w w'
end Go.Proofs.Ytjefjngheolmkaa
/- What a chain of segments is; contract of the program's goesOnFrom. Conditions: the changes can be read; their blocks are blocks. -/
namespace Go.Proofs.Ytjefjngheolmkaa
set_option linter.unusedVariables false
set_option maxRecDepth 100000
open Go.RowKit

/-- Where the first k lead to; the time of the last of them; what they noted of each block. -/
def atK (base : Int) (gs : List SgR) : Nat → Int
  | 0 => base
  | k + 1 => (gs.getD k sgZ).t
def tmK (gs : List SgR) : Nat → Int
  | 0 => 0
  | k + 1 => (gs.getD k sgZ).m
def mpK (gs : List SgR) : Nat → Int → Option Chg
  | 0 => noM
  | k + 1 => noteM (mpK gs k) (gs.getD k sgZ).cs
/-- What was old is what was new ahead of it, where that is known. -/
def onC (M : Int → Option Chg) (c : Chg) : Bool := match M c.1 with
  | some a => decide (a.2.1 = c.2.2)
  | none => true
def onB (M : Int → Option Chg) (cs : List Chg) : Bool := cs.all (onC M)
def sgB (g : SgR) : Bool := segB g.f g.t g.m g.cs
def lnk (base : Int) (gs : List SgR) (k : Nat) : Bool := sgB (gs.getD k sgZ) && decide ((gs.getD k sgZ).f = atK base gs k) && decide (tmK gs k ≤ (gs.getD k sgZ).m) && onB (mpK gs k) (gs.getD k sgZ).cs
def chainB (base : Int) (gs : List SgR) : Bool := decide (gs.length ≤ 4096) && inB 0 999999 base && (List.range gs.length).all (lnk base gs)
def LnTo (base : Int) (gs : List SgR) (k : Nat) : Prop := ∀ j, j < k → lnk base gs j = true
theorem LnTo.zero (base : Int) (gs : List SgR) : LnTo base gs 0 := fun j h => absurd h (by omega)
theorem LnTo.succ {base : Int} {gs : List SgR} {k : Nat} (h : LnTo base gs k) (hk : lnk base gs k = true) : LnTo base gs (k + 1) := fun j hj => by
  rcases Nat.lt_or_ge j k with hlt | hge
  · exact h j hlt
  · obtain rfl : j = k := by omega
    exact hk
theorem LnTo.all {base : Int} {gs : List SgR} (h : LnTo base gs gs.length) (hl : gs.length ≤ 4096) (hb : inB 0 999999 base = true) : chainB base gs = true := by
  unfold chainB
  rw [decide_eq_true hl, hb, List.all_eq_true.2 fun j hj => h j (by simpa using hj)]; rfl
theorem chainB_no {base : Int} {gs : List SgR} {k : Nat} (hk : k < gs.length) (h : lnk base gs k = false) : chainB base gs = false := by
  unfold chainB
  rw [List.all_eq_false.2 ⟨k, by simpa using hk, by rw [h]; simp⟩]; simp
theorem chainB_long {base : Int} {gs : List SgR} (h : ¬ gs.length ≤ 4096) : chainB base gs = false := by
  unfold chainB; rw [decide_eq_false h]; rfl
theorem chainB_base {base : Int} {gs : List SgR} (h : inB 0 999999 base = false) : chainB base gs = false := by
  unfold chainB; rw [h]; simp
theorem lnk_parts {base : Int} {gs : List SgR} {k : Nat} {g : SgR} (hg : gs.getD k sgZ = g) : lnk base gs k = (segB g.f g.t g.m g.cs && decide (g.f = atK base gs k) && decide (tmK gs k ≤ g.m) && onB (mpK gs k) g.cs) := by
  unfold lnk sgB; rw [hg]
theorem onB_no {M : Int → Option Chg} {cs : List Chg} {k : Nat} (hk : k < cs.length) (h : onC M (cs.getD k chZ) = false) : onB M cs = false := by
  unfold onB
  rw [List.all_eq_false]
  rw [List.getD_eq_getElem?_getD, List.getElem?_eq_getElem hk] at h
  exact ⟨cs[k], List.getElem_mem _, by simp only [Option.getD_some] at h; rw [h]; simp⟩
def OnTo (M : Int → Option Chg) (cs : List Chg) (k : Nat) : Prop := ∀ j, j < k → onC M (cs.getD j chZ) = true
theorem OnTo.zero (M : Int → Option Chg) (cs : List Chg) : OnTo M cs 0 := fun j h => absurd h (by omega)
theorem OnTo.succ {M : Int → Option Chg} {cs : List Chg} {k : Nat} (h : OnTo M cs k) (hk : onC M (cs.getD k chZ) = true) : OnTo M cs (k + 1) := fun j hj => by
  rcases Nat.lt_or_ge j k with hlt | hge
  · exact h j hlt
  · obtain rfl : j = k := by omega
    exact hk
theorem OnTo.all {M : Int → Option Chg} {cs : List Chg} (h : OnTo M cs cs.length) : onB M cs = true := List.all_eq_true.2 fun x hx => by
  obtain ⟨j, hj, rfl⟩ := List.mem_iff_getElem.1 hx
  have := h j hj
  rwa [List.getD_eq_getElem?_getD, List.getElem?_eq_getElem hj] at this

set_option maxRecDepth 100000 in
set_option maxHeartbeats 2000000 in
theorem goesOnFrom_c (f t m : Int) (A : Option Addr) (c B b : Nat) (cs : List Chg) (M : Int → Option Chg) (w : World) (h : Chs w B A cs) (hm : MapC w b M) (hB : B ≤ w.heap.size) (hok : chsB cs = true) :
    Calls Try.prog 84 #[.agg #[.int .i64 f, .int .i64 t, .int .i64 m, .slice A cs.length c], .map (some b)] w fun e w' => e = .returned (.bool (onB M cs)) ∧ Nx w w' := by
  have hl8 := chsB_len hok
  have hto := chsB_to hok
  have hbw := hm.lt
  clear hok
  go_enter Try.func84, Try.ntmps84
  go_wp2_with fail
  have hr0 : Nx w (w.alloc (.cells #[.int .i64 f, .int .i64 t, .int .i64 m, .slice A cs.length c] 30)) := (Nx.refl w).alloc _
  generalize w.alloc (.cells #[.int .i64 f, .int .i64 t, .int .i64 m, .slice A cs.length c] 30) = W at *
  go_loopw [12] (fun i wr => ∃ k : Nat, k ≤ cs.length ∧ i = .int .i64 k ∧ OnTo M cs k ∧ Nx w wr) (fun i _ => cs.length - (intOf i).toNat)
  case atStart => exact ⟨0, Nat.zero_le _, rfl, OnTo.zero _ _, hr0⟩
  case round =>
    obtain ⟨k, hk, rfl, hon, hnx⟩ := hrel
    clear hr0
    by_cases hlt : k < cs.length
    · obtain ⟨b', off, rfl, hb, k0, k1, k2⟩ := (h.below hnx hB).at_ hlt
      obtain ⟨hr0, hr1⟩ := hto.rise k hlt
      have HN := Lib.hid (fun (hh : onC M (cs.getD k chZ) = false) => onB_no hlt hh)
      have HY := Lib.hid (fun (hh : onC M (cs.getD k chZ) = true) => hon.succ hh)
      obtain ⟨⟨q0, q1, q2⟩, Hq⟩ : ∃ q, Hid (cs.getD k chZ = q) := ⟨_, rfl⟩
      rw [Hq.out] at k0 k1 k2 hr0 hr1 HN HY
      have hwf := wf_small (q := q0) (by simp only at hr0; omega) hr1
      have hma := (hm.nx hnx).alloc (.cells #[.int .i64 q0, .int .i64 q1, .int .i64 q2] 75)
      have hlk := hma.look hwf
      clear hon
      cases hMk : M q0 with
      | none =>
        rw [hMk] at hlk
        have hlk' : (Instr.lookup 105 (.map (some b)) (.int .i64 q0) true).run Try.prog (wr.alloc (.cells #[.int .i64 q0, .int .i64 q1, .int .i64 q2] 75)) = .ok (.tuple #[.agg #[.int .i64 0, .int .i64 0, .int .i64 0], .bool false]) (wr.alloc (.cells #[.int .i64 q0, .int .i64 q1, .int .i64 q2] 75)) := hlk
        have HM := Lib.hid (HY.out (by unfold onC; rw [hMk]))
        clear hlk hMk HN HY
        go_wp2
        go_roundw
        case rel => exact ⟨k + 1, by omega, by go_num, HM.out, (hnx.alloc _).alloc _⟩
        case measure => simp [intOf]; omega
      | some p =>
        obtain ⟨p0, p1, p2⟩ := p
        rw [hMk] at hlk
        have hlk' : (Instr.lookup 105 (.map (some b)) (.int .i64 q0) true).run Try.prog (wr.alloc (.cells #[.int .i64 q0, .int .i64 q1, .int .i64 q2] 75)) = .ok (.tuple #[.agg #[.int .i64 p0, .int .i64 p1, .int .i64 p2], .bool true]) (wr.alloc (.cells #[.int .i64 q0, .int .i64 q1, .int .i64 q2] 75)) := hlk
        clear hlk
        by_cases hpq : p1 = q2
        · have hd : (p1 != q2) = false := by simp [hpq]
          have HM := Lib.hid (HY.out (by unfold onC; rw [hMk]; simp [hpq]))
          clear hMk HN HY hpq
          go_wp2
          go_roundw
          case rel => exact ⟨k + 1, by omega, by go_num, HM.out, (hnx.alloc _).alloc _⟩
          case measure => simp [intOf]; omega
        · have hd : (p1 != q2) = true := by simp [hpq]
          have HM := Lib.hid (HN.out (by unfold onC; rw [hMk]; simp [hpq]))
          clear hMk HN HY hpq
          go_wp2
          go_ret
          exact ⟨by rw [HM.out]; rfl, (hnx.alloc _).alloc _⟩
    · obtain rfl : k = cs.length := by omega
      have HM := Lib.hid hon.all
      go_wp2
      go_ret
      exact ⟨by rw [HM.out]; rfl, hnx⟩
end Go.Proofs.Ytjefjngheolmkaa
/- Contract of ChainOK, as the program has it. Conditions: the segments can be read, and have at most 1048576 changes each. -/
namespace Go.Proofs.Ytjefjngheolmkaa
set_option linter.unusedVariables false
set_option maxRecDepth 100000
open Go.RowKit

theorem lnk_bad {base : Int} {gs : List SgR} {k : Nat} {f t m : Int} {A : Option Addr} {c : Nat} {cs : List Chg} (hg : gs.getD k sgZ = ⟨f, t, m, A, c, cs⟩)
    (h : segB f t m cs = false ∨ ¬ f = atK base gs k ∨ ¬ tmK gs k ≤ m ∨ onB (mpK gs k) cs = false) : lnk base gs k = false := by
  rw [lnk_parts hg]
  rcases h with h | h | h | h
  · simp only; rw [h]; rfl
  · simp only; rw [decide_eq_false h]; simp
  · simp only; rw [decide_eq_false h]; simp
  · simp only; rw [h]; simp
theorem lnk_yes {base : Int} {gs : List SgR} {k : Nat} {f t m : Int} {A : Option Addr} {c : Nat} {cs : List Chg} (hg : gs.getD k sgZ = ⟨f, t, m, A, c, cs⟩)
    (h1 : segB f t m cs = true) (h2 : f = atK base gs k) (h3 : tmK gs k ≤ m) (h4 : onB (mpK gs k) cs = true) : lnk base gs k = true := by
  rw [lnk_parts hg]
  simp only
  rw [h1, decide_eq_true h2, decide_eq_true h3, h4]; rfl
set_option maxRecDepth 100000 in
set_option maxHeartbeats 4000000 in
theorem implChainOK_c (base : Int) (A : Option Addr) (c B : Nat) (gs : List SgR) (w : World) (h : Sgs w B A gs) (hB : B ≤ w.heap.size) (hn : gs.length ≤ 1048576) (hm : ∀ k, k < gs.length → (gs.getD k sgZ).cs.length ≤ 1048576) :
    Calls Try.prog 40 #[.int .i64 base, .slice A gs.length c] w fun e w' => e = .returned (.bool (chainB base gs)) ∧ Nx w w' := by
  obtain ⟨n, Hn⟩ : ∃ n, Hid (gs.length = n) := ⟨_, rfl⟩
  rw [Hn.out] at hn ⊢
  by_cases hl : n ≤ 4096
  case neg =>
    have HR := Lib.hid (chainB_long (base := base) (gs := gs) (by rw [Hn.out]; exact hl))
    have hd : decide (4096 < (n : Int)) = true := by simp; omega
    go_enter Try.func40, Try.ntmps40
    go_wp2
    go_ret
    exact ⟨by rw [HR.out]; rfl, Nx.refl _⟩
  have hd : decide (4096 < (n : Int)) = false := by simp; omega
  cases hb : inB 0 999999 base
  · have HR := Lib.hid (chainB_base (base := base) (gs := gs) hb)
    have HB := Lib.hid hb
    clear hb
    go_enter Try.func40, Try.ntmps40
    go_wp2_with fail
    refine (isPosition_c base _).mono ?_
    rintro e w1 ⟨rfl, rfl⟩
    rw [HB.out]
    go_wp2
    go_ret
    exact ⟨by rw [HR.out]; rfl, Nx.refl _⟩
  have HB := Lib.hid hb
  clear hb
  have hmm := @run_makeMap Try.prog
  have hmap := MapC.made w
  have hx0 := (Nx.refl w).alloc (.map #[] 0)
  go_enter Try.func40, Try.ntmps40
  go_wp2_with fail
  refine (isPosition_c base _).mono ?_
  rintro e w1 ⟨rfl, rfl⟩
  rw [HB.out]
  go_wp2_with fail
  clear hmm
  generalize w.alloc (.map #[] 0) = W at *
  go_loopw [5, 6, 22] (fun a0 t0 i wr => ∃ k : Nat, k ≤ n ∧ i = .int .i64 k ∧ a0 = .int .i64 (atK base gs k) ∧ t0 = .int .i64 (tmK gs k) ∧ MapC wr w.heap.size (mpK gs k) ∧ LnTo base gs k ∧ Nx w wr) (fun _ _ i _ => n - (intOf i).toNat)
  case atStart => exact ⟨0, Nat.zero_le _, rfl, rfl, rfl, hmap, LnTo.zero _ _, hx0⟩
  case round =>
    obtain ⟨k, hk, rfl, rfl, rfl, hmk, hln, hnx⟩ := hrel
    clear hmap hx0
    by_cases hlt : k < n
    · have hlk : k < gs.length := by rw [Hn.out]; exact hlt
      obtain ⟨b, off, rfl, hb, p0, p1, p2, p3⟩ := (h.below hnx hB).row.at4 hlk
      have hch := (h.below hnx hB).chs k hlk
      have hmk' := hm k hlk
      have HNo := Lib.hid (fun (hh : lnk base gs k = false) => chainB_no hlk hh)
      have HYes := Lib.hid (fun (hh : lnk base gs k = true) => hln.succ hh)
      have HA := Lib.hid (show atK base gs (k + 1) = (gs.getD k sgZ).t from rfl)
      have HT := Lib.hid (show tmK gs (k + 1) = (gs.getD k sgZ).m from rfl)
      have HM := Lib.hid (show mpK gs (k + 1) = noteM (mpK gs k) (gs.getD k sgZ).cs from rfl)
      clear hln
      obtain ⟨⟨f, t, m, A2, cc, cs⟩, Hs⟩ : ∃ s, Hid (gs.getD k sgZ = s) := ⟨_, rfl⟩
      rw [Hs.out] at p0 p1 p2 p3 hch hmk' HA HT HM
      simp only at p0 p1 p2 p3 hch hmk'
      have bG := Box.new wr 30 #[.int .i64 f, .int .i64 t, .int .i64 m, .slice A2 cs.length cc]
      have hxa := (Nx.refl wr).alloc (.cells #[.int .i64 f, .int .i64 t, .int .i64 m, .slice A2 cs.length cc] 30)
      have hmka := hmk.nx hxa
      have hltm := hmk.lt
      obtain ⟨a0, Ha⟩ : ∃ q, Hid (atK base gs k = q) := ⟨_, rfl⟩
      obtain ⟨t0, Ht⟩ : ∃ q, Hid (tmK gs k = q) := ⟨_, rfl⟩
      obtain ⟨M, HMk⟩ : ∃ q, Hid (mpK gs k = q) := ⟨_, rfl⟩
      rw [Ha.out, Ht.out]
      rw [HMk.out] at hmka HM
      have HBad := Lib.hid (fun hh => HNo.out (lnk_bad (base := base) Hs.out hh))
      have HGood := Lib.hid (fun h1 h2 h3 h4 => HYes.out (lnk_yes (base := base) Hs.out h1 h2 h3 h4))
      rw [Ha.out, Ht.out, HMk.out] at HBad HGood
      clear HNo HYes hm
      go_wp2_with fail
      generalize hWa : wr.alloc (.cells #[.int .i64 f, .int .i64 t, .int .i64 m, .slice A2 cs.length cc] 30) = wa at *
      clear hWa p0 p1 p2 p3
      have hnxa := hnx.trans hxa
      have hszB := Nat.le_trans hB hnxa.size
      refine (segRight_c f t m A2 cc B cs _ (hch.below hxa (Nat.le_trans hB hnx.size)) hszB hmk').mono ?_
      rintro e w1 ⟨rfl, hx1⟩
      replace bG := bG.nx hx1
      replace hmka := hmka.nx hx1
      have hch1 := (hch.below hxa (Nat.le_trans hB hnx.size)).below hx1 hszB
      have hX1 := hnxa.trans hx1
      have hszB1 := Nat.le_trans hB hX1.size
      clear hxa hx1 hch hmk
      cases hsb : segB f t m cs
      · have HR := Lib.hid (HBad.out (.inl hsb))
        clear hsb HBad HGood
        go_wp2
        go_ret
        exact ⟨by rw [HR.out]; rfl, hX1⟩
      have hok : chsB cs = true := segB_chs hsb
      have HSB := Lib.hid hsb
      obtain ⟨c0, c1, c2, c3⟩ := bG.d4
      clear hsb
      by_cases hfa : f = a0
      case neg =>
        have HR := Lib.hid (HBad.out (.inr (.inl hfa)))
        have hd1 : (f != a0) = true := by simp [hfa]
        clear HBad HGood hfa
        go_wp2
        go_ret
        exact ⟨by rw [HR.out]; rfl, hX1⟩
      have hd1 : (f != a0) = false := by simp [hfa]
      have HFA := Lib.hid hfa
      clear hfa
      by_cases htm : t0 ≤ m
      case neg =>
        have HR := Lib.hid (HBad.out (.inr (.inr (.inl (by omega)))))
        have hd2 : decide (m < t0) = true := by simp; omega
        clear HBad HGood htm
        go_wp2
        go_ret
        exact ⟨by rw [HR.out]; rfl, hX1⟩
      have hd2 : decide (m < t0) = false := by simp; omega
      have HTM := Lib.hid htm
      clear htm
      go_wp2_with fail
      refine (goesOnFrom_c f t m A2 cc B w.heap.size cs M _ hch1 hmka hszB1 hok).mono ?_
      rintro e w2 ⟨rfl, hx2⟩
      clear c0 c1 c2 c3
      replace bG := bG.nx hx2
      replace hmka := hmka.nx hx2
      have hch2 := hch1.below hx2 hszB1
      have hX2 := hX1.trans hx2
      clear hx2 hch1
      cases hon : onB M cs
      · have HR := Lib.hid (HBad.out (.inr (.inr (.inr hon))))
        clear hon HBad HGood
        go_wp2
        go_ret
        exact ⟨by rw [HR.out]; rfl, hX2⟩
      have HLn := Lib.hid (HGood.out HSB.out HFA.out HTM.out hon)
      clear hon HBad HGood
      obtain ⟨c0, c1, c2, c3⟩ := bG.d4
      go_wp2_with fail
      refine (noteIn_c f t m A2 cc B w.heap.size cs M _ hch2 hmka hB hok).mono ?_
      rintro e w3 ⟨rfl, hm3, hr3⟩
      have bG3 := bG.rg hr3 (by omega)
      have hX3 := Rg.nx_of hX2 hr3 (Nat.le_refl _)
      clear c0 c1 c2 c3
      obtain ⟨c0, c1, c2, c3⟩ := bG3.d4
      go_wp2_with fail
      -- region
      refine wp_region_lex [false, false, false, false, false, false] (fun w' => w'.cell? ⟨wr.heap.size, 1, none⟩ = some (.int .i64 t) ∧ w'.cell? ⟨wr.heap.size, 2, none⟩ = some (.int .i64 m)) (by kernel_rfl) (by kernel_rfl) rfl (by kernel_rfl) (fun _ _ d _ _ h => by cases d <;> exact h) (by exact ⟨c1, c2⟩) ?_
      repeat (first | (refine HL.take (v := ?_) (by rfl) ?_ ?_; rotate_left; (· (intro w hSw; (try dsimp only at hSw); go_simp; try with_reducible rfl)); (try simp only [Act.put, List.setIfInBounds_toArray, List.set_cons_zero, List.set_cons_succ])) | (refine HL.skip (by rfl) ?_; (try simp only [Act.put, List.setIfInBounds_toArray, List.set_cons_zero, List.set_cons_succ])))
      refine HL.done ?_
      -- end
      go_wp2
      go_roundw
      case rel => exact ⟨k + 1, by omega, by go_num, by rw [HA.out], by rw [HT.out], by rw [HM.out]; exact hm3, HLn.out, hX3.drew⟩
      case measure => simp [intOf]; omega
    · obtain rfl : k = n := by omega
      have HR := Lib.hid (LnTo.all (base := base) (gs := gs) (by rw [Hn.out]; exact hln) (by rw [Hn.out]; exact hl) HB.out)
      go_wp2
      go_ret
      exact ⟨by rw [HR.out]; rfl, hnx⟩
end Go.Proofs.Ytjefjngheolmkaa
/- Contract of ChainOK, as the model has it. Conditions: the segments can be read, and have at most 1048576 changes each. -/
namespace Go.Proofs.Ytjefjngheolmkaa
set_option linter.unusedVariables false
set_option maxRecDepth 100000
open Go.RowKit

/-- What was new last of a block, -1 where nothing is known. -/
def lastV (M : Int → Option Chg) (j : Int) : Int := match M j with
  | some c => c.2.1
  | none => -1
def lsAt (M : Int → Option Chg) (i : Nat) : Value := .int .i64 (lastV M (i : Int))
def NonN (M : Int → Option Chg) : Prop := ∀ j c, M j = some c → 0 ≤ c.2.1
theorem OkTo.lt {cs : List Chg} {n : Nat} (h : OkTo cs n) : ∀ j, j < n → ∀ i, i < j → (cs.getD i chZ).1 < (cs.getD j chZ).1 := by
  intro j
  induction j with
  | zero => intro _ i hi; omega
  | succ j ih =>
    intro hj i hi
    have h0 := h (j + 1) hj
    unfold okCh at h0
    simp only [Bool.and_eq_true, Bool.or_eq_true, decide_eq_true_eq, Nat.add_sub_cancel] at h0
    have hlt : (cs.getD j chZ).1 < (cs.getD (j + 1) chZ).1 := by
      rcases h0.2 with h2 | h2
      · simp at h2
      · exact h2
    by_cases e : i = j
    · rw [e]; exact hlt
    · have := ih (by omega) i (by omega)
      omega
theorem noteM_far (M : Int → Option Chg) {cs : List Chg} (h : OkTo cs cs.length) : ∀ k, k ≤ cs.length → ∀ x : Int, (∀ i, i < k → (cs.getD i chZ).1 ≠ x) → noteM M (cs.take k) x = M x := by
  intro k
  induction k with
  | zero => intro _ x _; rfl
  | succ k ih =>
    intro hk x hx
    rw [noteM_succ M cs (by omega)]
    simp only
    rw [if_neg (fun e => hx k (by omega) e.symm)]
    exact ih (by omega) x fun i hi => hx i (by omega)
theorem noteM_at (M : Int → Option Chg) {cs : List Chg} (h : OkTo cs cs.length) {k : Nat} (hk : k < cs.length) : noteM M (cs.take k) (cs.getD k chZ).1 = M (cs.getD k chZ).1 :=
  noteM_far M h k (by omega) _ fun i hi => by have := h.lt k hk i hi; omega
theorem NonN.note {M : Int → Option Chg} (h : NonN M) {cs : List Chg} (hok : OkTo cs cs.length) : ∀ k, k ≤ cs.length → NonN (noteM M (cs.take k)) := by
  intro k
  induction k with
  | zero => intro _; exact h
  | succ k ih =>
    intro hk j c hj
    rw [noteM_succ M cs (by omega)] at hj
    simp only at hj
    by_cases e : j = (cs.getD k chZ).1
    · rw [if_pos e] at hj
      obtain rfl := Option.some.inj hj
      have := hok k (by omega)
      unfold okCh chB at this
      simp only [Bool.and_eq_true] at this
      exact (inB_yes this.1.1.2).1
    · rw [if_neg e] at hj
      exact ih (by omega) j c hj
theorem lnk_yes_parts {base : Int} {gs : List SgR} {k : Nat} (h : lnk base gs k = true) : segB (gs.getD k sgZ).f (gs.getD k sgZ).t (gs.getD k sgZ).m (gs.getD k sgZ).cs = true ∧ (gs.getD k sgZ).f = atK base gs k := by
  unfold lnk sgB at h
  simp only [Bool.and_eq_true, decide_eq_true_eq] at h
  exact ⟨h.1.1.1, h.1.1.2⟩
theorem LnTo.nonN {base : Int} {gs : List SgR} : ∀ k, LnTo base gs k → NonN (mpK gs k)
  | 0, _ => fun j c h => by cases h
  | k + 1, h => by
    have h1 := LnTo.nonN k fun j hj => h j (by omega)
    have h2 := chsB_to (segB_chs (lnk_yes_parts (h k (by omega))).1)
    have h3 := h1.note h2 _ (Nat.le_refl _)
    rw [List.take_length] at h3
    exact h3
theorem segB_range {f t m : Int} {cs : List Chg} (h : segB f t m cs = true) : inB 0 999999 f = true ∧ inB 0 999999 t = true ∧ inB 0 999999 m = true ∧ f < t := by
  unfold segB at h
  simp only [Bool.and_eq_true, decide_eq_true_eq] at h
  exact ⟨h.1.1.1.1, h.1.1.1.2, h.1.2, h.1.1.2⟩
theorem LnTo.end_ {base : Int} {gs : List SgR} {k : Nat} (h : LnTo base gs k) : inB 0 999999 (atK base gs k) = inB 0 999999 base := by
  cases k with
  | zero => rfl
  | succ k =>
    obtain ⟨h1, h2⟩ := lnk_yes_parts (h 0 (by omega))
    have h3 := (segB_range h1).1
    rw [h2] at h3
    rw [show atK base gs (k + 1) = (gs.getD k sgZ).t from rfl, (segB_range (lnk_yes_parts (h k (by omega))).1).2.1]
    exact h3.symm
theorem LnTo.chain {base : Int} {gs : List SgR} (h : LnTo base gs gs.length) (hl : gs.length ≤ 4096) : chainB base gs = inB 0 999999 base := by
  unfold chainB
  rw [decide_eq_true hl, List.all_eq_true.2 fun j hj => h j (by simpa using hj)]; simp
theorem onC_val {M : Int → Option Chg} (h : NonN M) (q0 q1 q2 : Int) : onC M (q0, q1, q2) = (decide (lastV M q0 < 0) || decide (lastV M q0 = q2)) := by
  unfold onC lastV
  cases hM : M q0 with
  | none => simp
  | some c =>
    have := h q0 c hM
    simp only
    rw [decide_eq_false (by omega : ¬ c.2.1 < 0)]; simp
theorem tmK_zero {gs : List SgR} {m : Int} (h : inB 0 999999 m = true) : tmK gs 0 ≤ m := (inB_yes h).1
end Go.Proofs.Ytjefjngheolmkaa
/- Values: contents turned by changes, block by block; changes put together; chains of segments that fit a content. Conditions: none (no memory is spoken of). -/
namespace Go.Proofs.Ytjefjngheolmkaa
set_option linter.unusedVariables false
set_option maxRecDepth 100000
open Go.RowKit

theorem noteM_nil (M : Int → Option Chg) : noteM M [] = M := rfl
theorem noteM_cons (M : Int → Option Chg) (c : Chg) (cs : List Chg) : noteM M (c :: cs) = noteM (fun k => if c.1 = k then some c else M k) cs := rfl
theorem noteM_snoc (M : Int → Option Chg) (cs : List Chg) (c : Chg) (k : Int) : noteM M (cs ++ [c]) k = if c.1 = k then some c else noteM M cs k := by
  unfold noteM; rw [List.foldl_append]; rfl
def Blk (cs : List Chg) : Prop := ∀ c ∈ cs, 0 ≤ c.1 ∧ c.1 ≤ 7
theorem chsB_mem {cs : List Chg} (h : chsB cs = true) : ∀ c ∈ cs, chB c = true := fun c hc => by
  obtain ⟨j, hj, rfl⟩ := List.mem_iff_getElem.1 hc
  have := chsB_to h j hj
  unfold okCh at this
  rw [List.getD_eq_getElem?_getD, List.getElem?_eq_getElem hj] at this
  simp only [Option.getD_some, Bool.and_eq_true] at this
  exact this.1
theorem chB_parts {c : Chg} (h : chB c = true) : (0 ≤ c.1 ∧ c.1 ≤ 7) ∧ (0 ≤ c.2.1 ∧ c.2.1 ≤ 999999) ∧ (0 ≤ c.2.2 ∧ c.2.2 ≤ 999999) := by
  unfold chB at h
  simp only [Bool.and_eq_true] at h
  exact ⟨inB_yes h.1.1, inB_yes h.1.2, inB_yes h.2⟩
theorem chsB_blk {cs : List Chg} (h : chsB cs = true) : Blk cs := fun c hc => (chB_parts (chsB_mem h c hc)).1
theorem app_cons (p : Chg → Int) (xs : List Int) (c : Chg) (cs : List Chg) : app p xs (c :: cs) = app p (xs.set c.1.toNat (p c)) cs := rfl
/-- Block by block. -/
theorem app_at (p : Chg → Int) (d : Nat → Int) : ∀ (cs : List Chg) (xs : List Int) (M : Int → Option Chg), Blk cs → xs.length = 8 → (∀ j : Nat, j < 8 → xs.getD j 0 = ((M (j : Int)).map p).getD (d j)) →
    ∀ j : Nat, j < 8 → (app p xs cs).getD j 0 = ((noteM M cs (j : Int)).map p).getD (d j)
  | [], xs, M, _, _, h, j, hj => h j hj
  | c :: cs, xs, M, hb, hl, h, j, hj => by
    rw [app_cons, noteM_cons]
    obtain ⟨h0, h7⟩ := hb c (by simp)
    refine app_at p d cs _ _ (fun x hx => hb x (by simp [hx])) (by rw [List.length_set]; exact hl) (fun i hi => ?_) j hj
    by_cases e : c.1 = (i : Int)
    · rw [if_pos e, show c.1.toNat = i by omega, getD_set_self (by omega)]; rfl
    · rw [if_neg e, getD_set_ne (by omega)]; exact h i hi
theorem app_at0 (p : Chg → Int) {cs : List Chg} {xs : List Int} (hb : Blk cs) (hl : xs.length = 8) {j : Nat} (hj : j < 8) : (app p xs cs).getD j 0 = ((noteM noM cs (j : Int)).map p).getD (xs.getD j 0) :=
  app_at p (fun j => xs.getD j 0) cs xs noM hb hl (fun i _ => rfl) j hj
theorem ext8 {xs ys : List Int} (h : xs.length = 8) (h2 : ys.length = 8) (he : ∀ j, j < 8 → xs.getD j 0 = ys.getD j 0) : xs = ys := List.ext_getElem (by omega) fun j h3 h4 => by
  have := he j (by omega)
  rw [List.getD_eq_getElem?_getD, List.getD_eq_getElem?_getD, List.getElem?_eq_getElem h3, List.getElem?_eq_getElem h4] at this
  exact this
/-- What was old is what is there. -/
def Fits (x : List Int) (cs : List Chg) : Prop := ∀ j : Nat, j < 8 → ∀ c, noteM noM cs (j : Int) = some c → c.2.2 = x.getD j 0
def Agree (M : Int → Option Chg) (x : List Int) : Prop := ∀ j : Nat, j < 8 → ∀ c, M (j : Int) = some c → c.2.1 = x.getD j 0
/-- What is undone is as it was. -/
theorem undo_ {x : List Int} {cs : List Chg} (hl : x.length = 8) (hb : Blk cs) (hf : Fits x cs) : app pO (app pN x cs) cs = x := by
  refine ext8 (by rw [app_len, app_len]; exact hl) hl fun j hj => ?_
  rw [app_at0 pO hb (by rw [app_len]; exact hl) hj]
  cases h : noteM noM cs (j : Int) with
  | none => rw [app_at0 pN hb hl hj, h]; rfl
  | some c => exact hf j hj c h
theorem Agree.note {M : Int → Option Chg} {x : List Int} {cs : List Chg} (h : Agree M x) (hl : x.length = 8) (hb : Blk cs) : Agree (noteM M cs) (app pN x cs) := fun j hj c hc => by
  have := app_at pN (fun j => x.getD j 0) cs x M hb hl (fun i hi => by
    cases hM : M (i : Int) with
    | none => rfl
    | some d => exact (h i hi d hM).symm) j hj
  rw [this, hc]; rfl
theorem noteM_mem {cs : List Chg} (h : chsB cs = true) {c : Chg} (hc : c ∈ cs) : noteM noM cs c.1 = some c := by
  obtain ⟨k, hk, rfl⟩ := List.mem_iff_getElem.1 hc
  have hto := chsB_to h
  have e : cs.getD k chZ = cs[k] := by rw [List.getD_eq_getElem?_getD, List.getElem?_eq_getElem hk]; rfl
  have step : ∀ n, k < n → n ≤ cs.length → noteM noM (cs.take n) cs[k].1 = some cs[k] := by
    intro n
    induction n with
    | zero => intro h1; omega
    | succ n ih =>
      intro h1 h2
      rw [noteM_succ noM cs (by omega)]
      simp only
      by_cases hn : k = n
      · subst hn
        rw [e, if_pos rfl]
      · have h3 := hto.lt n (by omega) k (by omega)
        rw [e] at h3
        rw [if_neg (by omega)]
        exact ih (by omega) (by omega)
  have := step cs.length hk (Nat.le_refl _)
  rwa [List.take_length] at this
theorem on_of {M : Int → Option Chg} {x : List Int} {cs : List Chg} (hA : Agree M x) (hok : chsB cs = true) (hf : Fits x cs) : onB M cs = true := List.all_eq_true.2 fun c hc => by
  obtain ⟨h0, h7⟩ := chsB_blk hok c hc
  have hm := noteM_mem hok hc
  unfold onC
  cases hM : M c.1 with
  | none => rfl
  | some a =>
    simp only
    rw [decide_eq_true_eq]
    have hj : ((c.1.toNat : Nat) : Int) = c.1 := by omega
    have h1 := hA c.1.toNat (by omega) a (by rw [hj]; exact hM)
    have h2 := hf c.1.toNat (by omega) c (by rw [hj]; exact hm)
    rw [h1, h2]
/-- A map whose entries stand at their blocks, and are right. -/
def Right (M : Int → Option Chg) : Prop := ∀ (j : Nat), j < 8 → ∀ c, M (j : Int) = some c → c.1 = (j : Int) ∧ chB c = true
theorem chsB_snoc {cs : List Chg} {c : Chg} (h : chsB cs = true) (hc : chB c = true) (hlt : ∀ d ∈ cs, d.1 < c.1) : chsB (cs ++ [c]) = true := OkTo.all fun j hj => by
  have hto := chsB_to h
  rw [List.length_append] at hj
  simp only [List.length_cons, List.length_nil] at hj
  unfold okCh
  by_cases hjl : j < cs.length
  · have e : ∀ i, i ≤ j → (cs ++ [c]).getD i chZ = cs.getD i chZ := fun i hi => by
      rw [List.getD_eq_getElem?_getD, List.getD_eq_getElem?_getD, List.getElem?_append_left (by omega)]
    rw [e j (Nat.le_refl _), e (j - 1) (by omega)]
    exact hto j hjl
  · obtain rfl : j = cs.length := by omega
    have e : (cs ++ [c]).getD cs.length chZ = c := by rw [List.getD_eq_getElem?_getD, List.getElem?_append_right (Nat.le_refl _)]; simp
    rw [e, hc]
    by_cases h0 : cs.length = 0
    · rw [h0]; rfl
    · have e1 : (cs ++ [c]).getD (cs.length - 1) chZ = cs[cs.length - 1] := by
        rw [List.getD_eq_getElem?_getD, List.getElem?_append_left (by omega), List.getElem?_eq_getElem (by omega)]; rfl
      rw [e1, decide_eq_true (hlt _ (List.getElem_mem _))]; simp
theorem ris_right {M : Int → Option Chg} (h : Right M) : ∀ k, k ≤ 8 → chsB (risM M k) = true ∧ (∀ d ∈ risM M k, d.1 < (k : Int)) ∧ ∀ j : Nat, noteM noM (risM M k) (j : Int) = if j < k then M (j : Int) else none
  | 0, _ => ⟨rfl, (fun d hd => by cases hd), (fun j => by rw [if_neg (by omega)]; rfl)⟩
  | k + 1, hk => by
    obtain ⟨h1, h2, h3⟩ := ris_right h k (by omega)
    rw [risM_succ]
    cases hM : M (k : Int) with
    | none =>
      simp only [Option.toList_none, List.append_nil]
      refine ⟨h1, fun d hd => by have := h2 d hd; omega, fun j => ?_⟩
      rw [h3 j]
      by_cases e : j = k
      · subst e; rw [if_neg (by omega), if_pos (by omega), hM]
      · by_cases e2 : j < k
        · rw [if_pos e2, if_pos (by omega)]
        · rw [if_neg e2, if_neg (by omega)]
    | some c =>
      obtain ⟨hc1, hc2⟩ := h k (by omega) c hM
      simp only [Option.toList_some]
      refine ⟨chsB_snoc h1 hc2 fun d hd => by have := h2 d hd; omega, fun d hd => ?_, fun j => ?_⟩
      · rcases List.mem_append.1 hd with hd | hd
        · have := h2 d hd; omega
        · simp only [List.mem_singleton] at hd; subst hd; omega
      · rw [noteM_snoc, h3 j]
        by_cases e : j = k
        · subst e; rw [if_pos hc1, if_pos (by omega), hM]
        · rw [if_neg (by omega)]
          by_cases e2 : j < k
          · rw [if_pos e2, if_pos (by omega)]
          · rw [if_neg e2, if_neg (by omega)]
theorem note_right {cs : List Chg} (h : chsB cs = true) : Right (noteM noM cs) := fun j hj c hc => by
  have key : ∀ (l : List Chg) (M : Int → Option Chg), (∀ d ∈ l, chB d = true) → (∀ k d, M k = some d → d.1 = k ∧ chB d = true) → ∀ k d, noteM M l k = some d → d.1 = k ∧ chB d = true := by
    intro l
    induction l with
    | nil => intro M _ h2; exact h2
    | cons a l ih =>
      intro M h1 h2 k d hd
      rw [noteM_cons] at hd
      refine ih _ (fun x hx => h1 x (by simp [hx])) (fun k' d' hd' => ?_) k d hd
      by_cases e : a.1 = k'
      · rw [if_pos e] at hd'
        obtain rfl := Option.some.inj hd'
        exact ⟨e, h1 a (by simp)⟩
      · rw [if_neg e] at hd'
        exact h2 k' d' hd'
  exact key cs noM (chsB_mem h) (fun k d hd => by cases hd) _ c hc
theorem app_cont {x : List Int} {cs : List Chg} (hx : contB x = true) (h : chsB cs = true) : contB (app pN x cs) = true := by
  obtain ⟨h8, hv⟩ := contB_yes hx
  refine contB_mk (by rw [app_len]; exact h8) fun j hj => ?_
  rw [app_len, h8] at hj
  rw [app_at0 pN (chsB_blk h) h8 hj]
  cases hM : noteM noM cs (j : Int) with
  | none => have := hv j hj; exact inB_mk this.1 this.2
  | some c => have := (chB_parts (note_right h j hj c hM).2).2.1; exact inB_mk this.1 this.2
theorem fits_one (x : List Int) (b : Nat) (v : Int) : Fits x [((b : Int), v, x.getD b 0)] := fun j hj c hc => by
  have h1 : (if (b : Int) = (j : Int) then some ((b : Int), v, x.getD b 0) else none) = some c := hc
  by_cases e : (b : Int) = (j : Int)
  · rw [if_pos e] at h1
    obtain rfl := Option.some.inj h1
    show x.getD b 0 = x.getD j 0
    rw [show b = j by omega]
  · rw [if_neg e] at h1; cases h1
/-- A write put together with what was ahead of it. -/
theorem mrg_one {x : List Int} {l1 : List Chg} (hx : contB x = true) (h1 : chsB l1 = true) (hf : Fits x l1) {b : Nat} (hb : b < 8) {v o : Int} (hv0 : 0 ≤ v) (hv1 : v ≤ 999999) (ho : (app pN x l1).getD b 0 = o) :
    chsB (mrgC l1 [((b : Int), v, o)]) = true ∧ app pN x (mrgC l1 [((b : Int), v, o)]) = app pN (app pN x l1) [((b : Int), v, o)] ∧ Fits x (mrgC l1 [((b : Int), v, o)]) := by
  have h8 := (contB_yes hx).1
  have hM : ∀ j : Nat, mgM (noteM noM l1) [((b : Int), v, o)] (j : Int) = if (b : Int) = (j : Int) then some ((b : Int), v, ((noteM noM l1 (j : Int)).getD ((b : Int), v, o)).2.2) else noteM noM l1 (j : Int) := fun j => rfl
  have ho2 := (contB_yes (app_cont hx h1)).2 b hb
  rw [ho] at ho2
  have hr := note_right h1
  have hR : Right (mgM (noteM noM l1) [((b : Int), v, o)]) := fun j hj c hc => by
    rw [hM j] at hc
    by_cases e : (b : Int) = (j : Int)
    · rw [if_pos e] at hc
      obtain rfl := Option.some.inj hc
      refine ⟨e, ?_⟩
      cases hN : noteM noM l1 (j : Int) with
      | none => exact chB_mk (by omega) (by omega) hv0 hv1 ho2.1 ho2.2
      | some d => have := (chB_parts (hr j hj d hN).2).2.2; exact chB_mk (by omega) (by omega) hv0 hv1 this.1 this.2
    · rw [if_neg e] at hc
      exact hr j hj c hc
  obtain ⟨q1, _, q3⟩ := ris_right hR 8 (Nat.le_refl _)
  replace q1 : chsB (mrgC l1 [((b : Int), v, o)]) = true := q1
  have q4 : ∀ j : Nat, j < 8 → noteM noM (mrgC l1 [((b : Int), v, o)]) (j : Int) = if (b : Int) = (j : Int) then some ((b : Int), v, ((noteM noM l1 (j : Int)).getD ((b : Int), v, o)).2.2) else noteM noM l1 (j : Int) := fun j hj => by
    have := q3 j
    rw [if_pos hj, hM j] at this
    exact this
  refine ⟨q1, ext8 (by rw [app_len]; exact h8) (by rw [app_len, app_len]; exact h8) fun j hj => ?_, fun j hj c hc => ?_⟩
  · rw [app_at0 pN (chsB_blk q1) h8 hj, q4 j hj, app_one]
    by_cases e : (b : Int) = (j : Int)
    · obtain rfl : b = j := by omega
      rw [if_pos rfl, getD_set_self (by rw [app_len]; omega)]; rfl
    · rw [if_neg e, getD_set_ne (by omega), app_at0 pN (chsB_blk h1) h8 hj]
  · rw [q4 j hj] at hc
    by_cases e : (b : Int) = (j : Int)
    · obtain rfl : b = j := by omega
      rw [if_pos rfl] at hc
      obtain rfl := Option.some.inj hc
      cases hN : noteM noM l1 (b : Int) with
      | none =>
        show o = x.getD b 0
        rw [← ho, app_at0 pN (chsB_blk h1) h8 hj, hN]; rfl
      | some d => exact hf b hj d hN
    · rw [if_neg e] at hc
      exact hf j hj c hc
/-- The content behind the first k. -/
def ctK (c0 : List Int) (gs : List SgR) : Nat → List Int
  | 0 => c0
  | k + 1 => app pN (ctK c0 gs k) (gs.getD k sgZ).cs
/-- A segment that goes on at place k. -/
structure Lk (base : Int) (c0 : List Int) (gs : List SgR) (k : Nat) (g : SgR) : Prop where
  seg : segB g.f g.t g.m g.cs = true
  at_ : g.f = atK base gs k
  tm : tmK gs k ≤ g.m
  fit : Fits (ctK c0 gs k) g.cs
/-- A chain that leads on from a content. -/
def ChI (base : Int) (c0 : List Int) (gs : List SgR) : Prop := ∀ k, k < gs.length → Lk base c0 gs k (gs.getD k sgZ)
theorem getD_pre (gs hs : List SgR) {k : Nat} (h : k < gs.length) : (gs ++ hs).getD k sgZ = gs.getD k sgZ := by
  rw [List.getD_eq_getElem?_getD, List.getD_eq_getElem?_getD, List.getElem?_append_left h]
theorem atK_pre (base : Int) (gs hs : List SgR) : ∀ k, k ≤ gs.length → atK base (gs ++ hs) k = atK base gs k
  | 0, _ => rfl
  | k + 1, h => by show ((gs ++ hs).getD k sgZ).t = (gs.getD k sgZ).t; rw [getD_pre gs hs (by omega)]
theorem tmK_pre (gs hs : List SgR) : ∀ k, k ≤ gs.length → tmK (gs ++ hs) k = tmK gs k
  | 0, _ => rfl
  | k + 1, h => by show ((gs ++ hs).getD k sgZ).m = (gs.getD k sgZ).m; rw [getD_pre gs hs (by omega)]
theorem ctK_pre (c0 : List Int) (gs hs : List SgR) : ∀ k, k ≤ gs.length → ctK c0 (gs ++ hs) k = ctK c0 gs k
  | 0, _ => rfl
  | k + 1, h => by
    show app pN (ctK c0 (gs ++ hs) k) ((gs ++ hs).getD k sgZ).cs = app pN (ctK c0 gs k) (gs.getD k sgZ).cs
    rw [getD_pre gs hs (by omega), ctK_pre c0 gs hs k (by omega)]
theorem Lk.pre {base : Int} {c0 : List Int} {gs : List SgR} {k : Nat} {g : SgR} (hs : List SgR) (hk : k ≤ gs.length) (h : Lk base c0 gs k g) : Lk base c0 (gs ++ hs) k g :=
  ⟨h.seg, by rw [atK_pre base gs hs k hk]; exact h.at_, by rw [tmK_pre gs hs k hk]; exact h.tm, by rw [ctK_pre c0 gs hs k hk]; exact h.fit⟩
theorem Lk.unpre {base : Int} {c0 : List Int} {gs hs : List SgR} {k : Nat} {g : SgR} (hk : k ≤ gs.length) (h : Lk base c0 (gs ++ hs) k g) : Lk base c0 gs k g :=
  ⟨h.seg, by rw [← atK_pre base gs hs k hk]; exact h.at_, by rw [← tmK_pre gs hs k hk]; exact h.tm, by rw [← ctK_pre c0 gs hs k hk]; exact h.fit⟩
theorem ChI.nil (base : Int) (c0 : List Int) : ChI base c0 [] := fun k hk => absurd hk (by simp)
theorem ChI.snoc {base : Int} {c0 : List Int} {gs : List SgR} {g : SgR} (h : ChI base c0 gs) (hg : Lk base c0 gs gs.length g) : ChI base c0 (gs ++ [g]) := fun k hk => by
  rw [List.length_append] at hk
  simp only [List.length_cons, List.length_nil] at hk
  by_cases e : k < gs.length
  · rw [getD_pre gs [g] e]; exact (h k e).pre [g] (by omega)
  · obtain rfl : k = gs.length := by omega
    rw [getD_app]; exact hg.pre [g] (Nat.le_refl _)
theorem ChI.init {base : Int} {c0 : List Int} {gs : List SgR} {g : SgR} (h : ChI base c0 (gs ++ [g])) : ChI base c0 gs ∧ Lk base c0 gs gs.length g := by
  refine ⟨fun k hk => ?_, ?_⟩
  · have := h k (by rw [List.length_append]; omega)
    rw [getD_pre gs [g] hk] at this
    exact this.unpre (by omega)
  · have := h gs.length (by rw [List.length_append]; simp)
    rw [getD_app] at this
    exact this.unpre (Nat.le_refl _)
theorem end_snoc (base : Int) (c0 : List Int) (gs : List SgR) (g : SgR) : atK base (gs ++ [g]) (gs.length + 1) = g.t ∧ tmK (gs ++ [g]) (gs.length + 1) = g.m ∧ ctK c0 (gs ++ [g]) (gs.length + 1) = app pN (ctK c0 gs gs.length) g.cs := by
  refine ⟨?_, ?_, ?_⟩
  · show ((gs ++ [g]).getD gs.length sgZ).t = _
    rw [getD_app]
  · show ((gs ++ [g]).getD gs.length sgZ).m = _
    rw [getD_app]
  · show app pN (ctK c0 (gs ++ [g]) gs.length) ((gs ++ [g]).getD gs.length sgZ).cs = _
    rw [getD_app, ctK_pre c0 gs [g] _ (Nat.le_refl _)]
theorem ChI.cont {base : Int} {c0 : List Int} {gs : List SgR} (h : ChI base c0 gs) (hc : contB c0 = true) : ∀ k, k ≤ gs.length → contB (ctK c0 gs k) = true
  | 0, _ => hc
  | k + 1, hk => app_cont (h.cont hc k (by omega)) (segB_chs (h k (by omega)).seg)
theorem ChI.agree {base : Int} {c0 : List Int} {gs : List SgR} (h : ChI base c0 gs) (hc : contB c0 = true) : ∀ k, k ≤ gs.length → Agree (mpK gs k) (ctK c0 gs k)
  | 0, _ => fun j _ c hh => by cases hh
  | k + 1, hk => (h.agree hc k (by omega)).note (contB_yes (h.cont hc k (by omega))).1 (chsB_blk (segB_chs (h k (by omega)).seg))
/-- Such a chain is one. -/
theorem ChI.chain {base : Int} {c0 : List Int} {gs : List SgR} (h : ChI base c0 gs) (hc : contB c0 = true) (hb : inB 0 999999 base = true) (hl : gs.length ≤ 4096) : chainB base gs = true :=
  LnTo.all (fun k hk => by
    have L := h k hk
    unfold lnk sgB
    rw [L.seg, decide_eq_true L.at_, decide_eq_true L.tm, on_of (h.agree hc k (by omega)) (segB_chs L.seg) L.fit]; rfl) hl hb
theorem ChI.undo {base : Int} {c0 : List Int} {gs : List SgR} (h : ChI base c0 gs) (hc : contB c0 = true) {k : Nat} (hk : k < gs.length) : app pO (ctK c0 gs (k + 1)) (gs.getD k sgZ).cs = ctK c0 gs k :=
  undo_ (contB_yes (h.cont hc k (by omega))).1 (chsB_blk (segB_chs (h k hk).seg)) (h k hk).fit
end Go.Proofs.Ytjefjngheolmkaa
/- Rows of segments of the call's own: they grow by one, and their last one is turned. Conditions: those of each theorem. -/
namespace Go.Proofs.Ytjefjngheolmkaa
set_option linter.unusedVariables false
set_option maxRecDepth 100000
open Go.RowKit

def gCs (g : SgR) : List Value := [.int .i64 g.f, .int .i64 g.t, .int .i64 g.m, .slice g.A g.cs.length g.c]
def gVs (gs : List SgR) : List Value := gs.flatMap gCs
theorem gVs_len : ∀ gs : List SgR, (gVs gs).length = gs.length * 4
  | [] => rfl
  | g :: gs => by
    show (gCs g ++ gVs gs).length = _
    rw [List.length_append, gVs_len gs, List.length_cons]
    unfold gCs
    simp only [List.length_cons, List.length_nil]; omega
theorem gVs_snoc (gs : List SgR) (g : SgR) : gVs (gs ++ [g]) = gVs gs ++ gCs g := by
  unfold gVs; rw [List.flatMap_append]; simp
theorem gVs_get : ∀ (gs : List SgR) (i : Nat), i < gs.length * 4 → (gVs gs)[i]? = some (sgAt gs i)
  | [], i, h => by simp at h
  | g :: gs, i, h => by
    show (gCs g ++ gVs gs)[i]? = _
    by_cases hi : i < 4
    · rw [List.getElem?_append_left (by simpa [gCs] using hi)]
      match i, hi with
      | 0, _ => rfl
      | 1, _ => rfl
      | 2, _ => rfl
      | 3, _ => rfl
    · rw [List.getElem?_append_right (by simpa [gCs] using hi)]
      show (gVs gs)[i - 4]? = _
      rw [gVs_get gs (i - 4) (by simp at h; omega)]
      have e1 : (i - 4) % 4 = i % 4 := by omega
      have e2 : i / 4 = (i - 4) / 4 + 1 := by omega
      unfold sgAt
      rw [e1, e2, List.getD_cons_succ]
/-- The changes of segments lie in blocks of the call's own, from block B on. -/
def ChO (w : World) (B : Nat) (gs : List SgR) : Prop := ∀ k, k < gs.length → Sl w B (gs.getD k sgZ).A 75 ((gs.getD k sgZ).cs.length * 3) (chAt (gs.getD k sgZ).cs)
theorem ChO.nx {w w' : World} {B : Nat} {gs : List SgR} (h : ChO w B gs) (hb : Nx w w') : ChO w' B gs := fun k hk => (h k hk).nx hb
theorem Sl.rgO {w w' : World} {lo a b : Nat} {A : Option Addr} {t : TypeId} {m : Nat} {f : Nat → Value} (h : Sl w lo A t m f) (hb : Rg a b w w') (hd : b ≤ lo) : Sl w' lo A t m f := fun hm => by
  obtain ⟨g, e, hl, ho⟩ := h hm; exact ⟨g, e, hl, ho.rg hb (.inr (by omega))⟩
theorem ChO.rg {w w' : World} {B a b : Nat} {gs : List SgR} (h : ChO w B gs) (hb : Rg a b w w') (hd : b ≤ B) : ChO w' B gs := fun k hk => (h k hk).rgO hb hd
theorem ChO.snoc {w : World} {B : Nat} {gs : List SgR} {g : SgR} (h : ChO w B gs) (hg : Sl w B g.A 75 (g.cs.length * 3) (chAt g.cs)) : ChO w B (gs ++ [g]) := fun k hk => by
  rw [List.length_append] at hk
  simp only [List.length_cons, List.length_nil] at hk
  by_cases e : k < gs.length
  · rw [getD_pre gs [g] e]; exact h k e
  · obtain rfl : k = gs.length := by omega
    rw [getD_app]; exact hg
theorem ChO.init {w : World} {B : Nat} {gs : List SgR} {g : SgR} (h : ChO w B (gs ++ [g])) : ChO w B gs ∧ Sl w B g.A 75 (g.cs.length * 3) (chAt g.cs) := by
  refine ⟨fun k hk => ?_, ?_⟩
  · have := h k (by rw [List.length_append]; omega)
    rw [getD_pre gs [g] hk] at this
    exact this
  · have := h gs.length (by rw [List.length_append]; simp)
    rw [getD_app] at this
    exact this
/-- A row of segments of the call's own, from block B on. -/
def RowS (w : World) (B : Nat) (v : Value) (gs : List SgR) : Prop := w.ownsRow B 30 4 v gs.length (gVs gs)
theorem RowS.new (w : World) {B : Nat} (hB : B ≤ w.heap.size) : RowS (w.alloc (.cells #[] 30)) B (.slice (some ⟨w.heap.size, 0, none⟩) 0 0) [] :=
  ⟨rfl, .inr ⟨_, 0, #[], rfl, hB, heap_alloc_new w _, by simp, by unfold maxLen; omega, rfl, rfl⟩⟩
theorem RowS.sl {w : World} {B : Nat} {v : Value} {gs : List SgR} (h : RowS w B v gs) : ∃ A c, v = .slice A gs.length c ∧ Sl w B A 30 (gs.length * 4) (sgAt gs) := by
  rcases h.2 with ⟨rfl, h0⟩ | ⟨g, cap, cur, rfl, hb, hg, hnc, _, hcs, htk⟩
  · exact ⟨none, 0, by rw [h0], fun hn => by omega⟩
  · refine ⟨_, cap, rfl, Sl.own ⟨cur, hg, by have := Nat.mul_le_mul_right 4 hnc; omega, fun i hi => ?_⟩ hb⟩
    have h1 : (cur.toList.take (gs.length * 4))[i]? = some (sgAt gs i) := by rw [htk]; exact gVs_get gs i hi
    rw [List.getElem?_take_of_lt hi] at h1
    simpa using h1
theorem RowS.sgo {w : World} {B : Nat} {v : Value} {gs : List SgR} (h : RowS w B v gs) (hc : ChO w B gs) : ∃ A c, v = .slice A gs.length c ∧ SgO w B A gs := by
  obtain ⟨A, c, e, hs⟩ := h.sl
  exact ⟨A, c, e, hs, hc⟩
theorem RowS.nx {w w' : World} {B : Nat} {v : Value} {gs : List SgR} (h : RowS w B v gs) (hb : Nx w w') : RowS w' B v gs := by
  refine World.ownsRow.kept (row := none) h ⟨hb.os, hb.tape, hb.output, hb.size, fun i hi _ => hb.block i hi⟩ ?_
  cases hv : v.ownBlock with
  | none => exact .inl rfl
  | some g => exact .inr (by simp)
theorem RowS.rg {w w' : World} {B lo hi : Nat} {v : Value} {gs : List SgR} (h : RowS w B v gs) (hr : Rg lo hi w w') (hh : hi ≤ B) : RowS w' B v gs := by
  rcases h.2 with ⟨rfl, h0⟩ | ⟨g, cap, cur, rfl, hb, hg, r⟩
  · exact ⟨h.1, .inl ⟨rfl, h0⟩⟩
  · have hlt := (World.ownsRow.lt h g rfl).2
    exact ⟨h.1, .inr ⟨g, cap, cur, rfl, hb, (hr.block g hlt (.inr (by omega))).trans hg, r⟩⟩
theorem RowS.ne {w : World} {B g : Nat} {v : Value} {gs : List SgR} {t : TypeId} {m : Nat} {f : Nat → Value} (h : RowS w B v gs) (hb : Own w g t m f) (ht : t ≠ 30) : some g ≠ v.ownBlock := by
  intro he
  rcases h.2 with ⟨rfl, _⟩ | ⟨g', cap, cur, rfl, _, hg, _⟩
  · simp [Value.ownBlock] at he
  · obtain rfl : g = g' := by simpa [Value.ownBlock] using he
    obtain ⟨cs, hb, _⟩ := hb
    rw [hg] at hb
    injection hb with hb
    injection hb with _ hb
    exact ht hb.symm
/-- What an append of a segment leaves as it is. -/
structure GrewS (B : Nat) (w w' : World) : Prop where
  nx : ∀ a, Nx a w → a.heap.size ≤ B → Nx a w'
  rg : ∀ lo hi a, Rg lo hi a w → a.heap.size ≤ B → Rg lo hi a w'
  own : ∀ g t m f, t ≠ 30 → Own w g t m f → Own w' g t m f
  box : ∀ g t xs, t ≠ 30 → Box w g t xs → Box w' g t xs
  size : w.heap.size ≤ w'.heap.size
  low : Below B w w'
theorem GrewS.sl {B : Nat} {w w' : World} (h : GrewS B w w') {lo : Nat} {A : Option Addr} {t : TypeId} {m : Nat} {f : Nat → Value} (hs : Sl w lo A t m f) (ht : t ≠ 30) : Sl w' lo A t m f := fun hm => by
  obtain ⟨g, e, hl, ho⟩ := hs hm
  exact ⟨g, e, hl, h.own g t m f ht ho⟩
theorem GrewS.cho {B B' : Nat} {w w' : World} (h : GrewS B w w') {gs : List SgR} (hs : ChO w B' gs) : ChO w' B' gs := fun k hk => h.sl (hs k hk) (by decide)
set_option maxHeartbeats 1000000 in
/-- append of one segment at the operation, for the walk. -/
theorem wpList_addS {w : World} {ops : Array Oper} {rest : List Oper} {o : Oper} {a : Act} {Q : Exit → Act → World → Prop}
    (hgd : o.guard = none) (s x : Operand) (ho : o.op = .call { callee := .builtin .append, args := #[s, x], argTypes := #[65, 65] })
    (B gd : Nat) (v : Value) (gs : List SgR) (g : SgR) (hs : a.eval s = v) (hx : a.eval x = .slice (some ⟨gd, 0, none⟩) 1 1) (hown : RowS w B v gs) (hbx : Box w gd 30 #[.int .i64 g.f, .int .i64 g.t, .int .i64 g.m, .slice g.A g.cs.length g.c])
    (hl : gs.length ≤ 1048576) (hB : B ≤ w.heap.size)
    (hK : ∀ A' k' w', RowS w' B (.slice A' (gs.length + 1) k') (gs ++ [g]) → GrewS B w w' → wpList Try.prog ops Q rest (a.put o.dst (.slice A' (gs.length + 1) k')) w') :
    wpList Try.prog ops Q (o :: rest) a w := by
  obtain ⟨i0, hi0, hz0, hz1, hz2⟩ := info_parts info_sg
  refine wpList_append_own w hgd s x 65 ho B 30 i0 _ 4 48 Try.underlying65 hi0 hz0 hz1 hz2 rfl (by omega) v gs.length _ hs hown ⟨gd, 0, none⟩ 1 1 (gCs g) hx rfl (fun j u hj => ?_) (fun u hu => by unfold gCs at hu; simp only [List.mem_cons, List.not_mem_nil, or_false] at hu; rcases hu with rfl | rfl | rfl | rfl <;> rfl) (by unfold maxLen; omega) (by omega) hB ?_
  · rw [addr_add', Nat.zero_add, hbx.cell j]
    rw [← hj]
    unfold gCs
    rcases j with _ | _ | _ | _ | j <;> simp
  · intro v' w' hw' hg' _
    have hr : RowS w' B v' (gs ++ [g]) := by
      unfold RowS
      rw [gVs_snoc, List.length_append]
      exact hw'
    obtain ⟨A', k', rfl, _⟩ := hr.sl
    rw [List.length_append] at hr ⊢
    have hrow : ∀ k, Value.ownBlock v = some k → B ≤ k := fun k hk => (World.ownsRow.lt hown k hk).1
    have hown' : ∀ g t m f, t ≠ 30 → Own w g t m f → Own w' g t m f := fun g t m f ht ho => ho.of_block (hg'.block g ho.lt (hown.ne ho ht))
    refine hK A' k' w' hr ⟨fun b hb hbB => Below.grown hb hg' hb.size (fun k hk => Nat.le_trans hbB (hrow k hk)), fun lo hi b hb hbB => ?_, hown', fun g t xs ht hbg => ?_, hg'.size, ⟨hg'.os, hg'.tape, hg'.output, hg'.size, fun k hk => hg'.block k (by omega) (fun e => by have := hrow k e.symm; omega)⟩⟩
    · refine ⟨hg'.os.trans hb.os, hg'.tape.trans hb.tape, hg'.output.trans hb.output, Nat.le_trans hb.size hg'.size, fun k hk hr => (hg'.block k (Nat.lt_of_lt_of_le hk hb.size) fun e => ?_).trans (hb.block k hk hr)⟩
      have := hrow k e.symm
      omega
    · exact hbg.grown hg' (hown.ne hbg.own ht)
theorem RowS.mk {w : World} {B g cap : Nat} {gs : List SgR} {cur : Array Value} (hB : B ≤ g) (hb : Box w g 30 cur) (h1 : gs.length ≤ cap) (h2 : cap ≤ maxLen) (h3 : cur.size = cap * 4) (h : ∀ i, i < gs.length * 4 → cur[i]? = some (sgAt gs i)) : RowS w B (.slice (some ⟨g, 0, none⟩) gs.length cap) gs := by
  refine ⟨gVs_len gs, .inr ⟨g, cap, cur, rfl, hB, hb, h1, h2, h3, ?_⟩⟩
  refine List.ext_getElem? fun i => ?_
  by_cases hi : i < gs.length * 4
  · rw [List.getElem?_take_of_lt hi, gVs_get gs i hi]
    simpa using h i hi
  · rw [List.getElem?_eq_none (by rw [List.length_take]; omega), List.getElem?_eq_none (by rw [gVs_len]; omega)]
theorem set4_at (cur : Array Value) (a : Nat) (v0 v1 v2 v3 : Value) (h : a + 4 ≤ cur.size) :
    ((((cur.setIfInBounds a v0).setIfInBounds (a + 1) v1).setIfInBounds (a + 2) v2).setIfInBounds (a + 3) v3)[a]? = some v0 ∧ ((((cur.setIfInBounds a v0).setIfInBounds (a + 1) v1).setIfInBounds (a + 2) v2).setIfInBounds (a + 3) v3)[a + 1]? = some v1
    ∧ ((((cur.setIfInBounds a v0).setIfInBounds (a + 1) v1).setIfInBounds (a + 2) v2).setIfInBounds (a + 3) v3)[a + 2]? = some v2 ∧ ((((cur.setIfInBounds a v0).setIfInBounds (a + 1) v1).setIfInBounds (a + 2) v2).setIfInBounds (a + 3) v3)[a + 3]? = some v3 := by
  refine ⟨?_, ?_, ?_, ?_⟩
  · rw [Array.getElem?_setIfInBounds_ne (by omega), Array.getElem?_setIfInBounds_ne (by omega), Array.getElem?_setIfInBounds_ne (by omega), Array.getElem?_setIfInBounds, if_pos rfl, if_pos (by omega)]
  · rw [Array.getElem?_setIfInBounds_ne (by omega), Array.getElem?_setIfInBounds_ne (by omega), Array.getElem?_setIfInBounds, if_pos rfl, if_pos (by rw [Array.size_setIfInBounds]; omega)]
  · rw [Array.getElem?_setIfInBounds_ne (by omega), Array.getElem?_setIfInBounds, if_pos rfl, if_pos (by rw [Array.size_setIfInBounds, Array.size_setIfInBounds]; omega)]
  · rw [Array.getElem?_setIfInBounds, if_pos rfl, if_pos (by rw [Array.size_setIfInBounds, Array.size_setIfInBounds, Array.size_setIfInBounds]; omega)]
/-- The last one is turned. -/
def putG (w : World) (g k : Nat) (x : SgR) : World := (((w.setCell ⟨g, k * 4, none⟩ (.int .i64 x.f)).setCell ⟨g, k * 4 + 1, none⟩ (.int .i64 x.t)).setCell ⟨g, k * 4 + 2, none⟩ (.int .i64 x.m)).setCell ⟨g, k * 4 + 3, none⟩ (.slice x.A x.cs.length x.c)
theorem RowS.put {w : World} {B g cap : Nat} {gs : List SgR} {y : SgR} (h : RowS w B (.slice (some ⟨g, 0, none⟩) (gs.length + 1) cap) (gs ++ [y])) (x : SgR) :
    RowS (putG w g gs.length x) B (.slice (some ⟨g, 0, none⟩) (gs.length + 1) cap) (gs ++ [x]) ∧ GrewS B w (putG w g gs.length x) := by
  have hl1 : ∀ z : SgR, (gs ++ [z]).length = gs.length + 1 := fun z => by simp
  rcases h.2 with ⟨he, _⟩ | ⟨g', cap', cur, he, hb, hg, hnc, hmx, hsz, htk⟩
  · cases he
  · injection he with e1 e2 e3
    injection e1 with e1
    injection e1 with e1
    subst e1 e3
    rw [hl1] at hnc htk
    have hcell : ∀ i, i < (gs.length + 1) * 4 → cur[i]? = some (sgAt (gs ++ [y]) i) := fun i hi => by
      have h1 : (cur.toList.take ((gs.length + 1) * 4))[i]? = some (sgAt (gs ++ [y]) i) := by rw [htk]; exact gVs_get _ i (by rw [hl1]; exact hi)
      rw [List.getElem?_take_of_lt hi] at h1
      simpa using h1
    have hbox : Box w g 30 cur := hg
    have hb4 := (((hbox.set (gs.length * 4) (.int .i64 x.f)).set (gs.length * 4 + 1) (.int .i64 x.t)).set (gs.length * 4 + 2) (.int .i64 x.m)).set (gs.length * 4 + 3) (.slice x.A x.cs.length x.c)
    have hg4 : (gs ++ [x]).getD gs.length sgZ = x := getD_app gs x
    have hlen : gs.length * 4 + 4 ≤ cur.size := by rw [hsz]; have := Nat.mul_le_mul_right 4 hnc; omega
    obtain ⟨t0, t1, t2, t3⟩ := set4_at cur (gs.length * 4) (.int .i64 x.f) (.int .i64 x.t) (.int .i64 x.m) (.slice x.A x.cs.length x.c) hlen
    refine ⟨?_, ?_⟩
    · have := RowS.mk (gs := gs ++ [x]) (cap := cap) hb hb4 (by rw [hl1]; exact hnc) hmx (by simp [hsz]) fun i hi => ?_
      · rw [hl1] at this; exact this
      · rw [hl1] at hi
        by_cases h3 : i = gs.length * 4 + 3
        · subst h3; rw [sgAt3, hg4]; exact t3
        · by_cases h2 : i = gs.length * 4 + 2
          · subst h2; rw [sgAt2, hg4]; exact t2
          · by_cases h1 : i = gs.length * 4 + 1
            · subst h1; rw [sgAt1, hg4]; exact t1
            · by_cases h0 : i = gs.length * 4
              · subst h0; rw [sgAt0, hg4]; exact t0
              · rw [sgAt_app gs [x] i (by omega), ← sgAt_app gs [y] i (by omega), ← hcell i (by omega)]
                rw [Array.getElem?_setIfInBounds_ne (by omega), Array.getElem?_setIfInBounds_ne (by omega), Array.getElem?_setIfInBounds_ne (by omega), Array.getElem?_setIfInBounds_ne (by omega)]
    · have hblk : ∀ k, k ≠ g → (putG w g gs.length x).heap[k]? = w.heap[k]? := fun k hk => by
        unfold putG
        rw [Below.heap_setCell _ _ _ _ hk, Below.heap_setCell _ _ _ _ hk, Below.heap_setCell _ _ _ _ hk, Below.heap_setCell _ _ _ _ hk]
      have hsize : w.heap.size ≤ (putG w g gs.length x).heap.size := by unfold putG; simp [World.setCell]
      have hlow : Below B w (putG w g gs.length x) := ⟨rfl, rfl, rfl, hsize, fun k hk => hblk k (by omega)⟩
      refine ⟨fun a ha haB => ⟨ha.os, ha.tape, ha.output, Nat.le_trans ha.size hsize, fun k hk => (hblk k (by omega)).trans (ha.block k hk)⟩,
        fun lo hi a ha haB => ⟨ha.os, ha.tape, ha.output, Nat.le_trans ha.size hsize, fun k hk hr => (hblk k (by omega)).trans (ha.block k hk hr)⟩,
        fun g2 t m f ht ho => ho.of_block (hblk g2 fun e => ?_), fun g2 t xs ht hbx => (hblk g2 fun e => ?_).trans hbx, hsize, hlow⟩
      · subst e
        obtain ⟨cs, ho, _⟩ := ho
        rw [hg] at ho
        injection ho with ho
        injection ho with _ ho
        exact ht ho.symm
      · subst e
        unfold Box at hbx
        rw [hg] at hbx
        injection hbx with hbx
        injection hbx with _ hbx
        exact ht hbx.symm
/-- What a store into the last one needs to know. -/
theorem RowS.last {w : World} {B g cap : Nat} {gs : List SgR} {y : SgR} (h : RowS w B (.slice (some ⟨g, 0, none⟩) (gs.length + 1) cap) (gs ++ [y])) :
    w.cell? ⟨g, gs.length * 4, none⟩ = some (.int .i64 y.f) ∧ w.cell? ⟨g, gs.length * 4 + 1, none⟩ = some (.int .i64 y.t) ∧ w.cell? ⟨g, gs.length * 4 + 2, none⟩ = some (.int .i64 y.m) ∧ w.cell? ⟨g, gs.length * 4 + 3, none⟩ = some (.slice y.A y.cs.length y.c) ∧ (∀ i, w.frozen? ⟨g, i, none⟩ = false) ∧ B ≤ g ∧ g < w.heap.size := by
  obtain ⟨A, c, e, hs⟩ := h.sl
  injection e with e1 _ _
  subst e1
  obtain ⟨g', e2, hl, ho⟩ := hs (by simp)
  injection e2 with e2
  injection e2 with e2
  subst e2
  have hl1 : (gs ++ [y]).length = gs.length + 1 := by simp
  rw [hl1] at ho
  have hg4 : (gs ++ [y]).getD gs.length sgZ = y := getD_app gs y
  have c0 := ho.cell (i := gs.length * 4) (by omega)
  have c1 := ho.cell (i := gs.length * 4 + 1) (by omega)
  have c2 := ho.cell (i := gs.length * 4 + 2) (by omega)
  have c3 := ho.cell (i := gs.length * 4 + 3) (by omega)
  rw [sgAt0, hg4] at c0
  rw [sgAt1, hg4] at c1
  rw [sgAt2, hg4] at c2
  rw [sgAt3, hg4] at c3
  exact ⟨c0, c1, c2, c3, ho.frozen, hl, ho.lt⟩
/-- A content that is read: an older one, or one of the call's own. -/
def CI (w : World) (g B : Nat) (A : Option Addr) (x : List Int) : Prop := Ins w g A x ∨ SlI w B A x
section
variable {w w' : World} {g B : Nat} {A : Option Addr} {x : List Int}
theorem CI.nx (h : CI w g B A x) (hb : Nx w w') (hg : g ≤ w.heap.size) : CI w' g B A x := by
  rcases h with h | h
  · exact .inl (h.below hb hg)
  · exact .inr (Sl.nx h hb)
theorem CI.rg (h : CI w g B A x) (hb : Rg g (g + 1) w w') (hg : g ≤ w.heap.size) (hB : g + 1 ≤ B) : CI w' g B A x := by
  rcases h with h | h
  · exact .inl (h.below (hb.below hg) (Nat.le_refl _))
  · exact .inr (Sl.rgO h hb hB)
theorem CI.grew (h : CI w g B A x) (hb : GrewS B w w') (hB : g ≤ B) : CI w' g B A x := by
  rcases h with h | h
  · exact .inl (h.below hb.low hB)
  · exact .inr (hb.sl h (by decide))
theorem CI.ins (h : CI w g B A x) (hg : g ≤ w.heap.size) : Ins w w.heap.size A x := by
  rcases h with h | h
  · exact h.more hg
  · exact Sl.row h
end
end Go.Proofs.Ytjefjngheolmkaa
