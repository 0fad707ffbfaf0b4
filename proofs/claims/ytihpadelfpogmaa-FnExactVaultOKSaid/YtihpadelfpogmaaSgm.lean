/-
  Contracts of the laws' functions that copy and compare lists of segments; a list of segments that comes in, opened.
  Conditions: what is read can be read; copied or compared: at most 1048576 of each.
-/
import Derived.Test.YtihpadelfpogmaaSgl
import Derived.StillTailTactics
namespace Go.Proofs.Ytihpadelfpogmaa
set_option linter.unusedVariables false
set_option maxRecDepth 100000
open Go.Joins Go.ChangeShapes Go.WideShapes Go.RowKit Go.Deep

theorem info_sg : (Try.prog.info? 54).map (fun i => (i.zero, i.size, i.bytes)) = some (some (.agg #[.int .i64 0, .int .i64 0, .int .i64 0, .slice none 0 0]), 4, 48) := by kernel_rfl
theorem Fill.congr {w : World} {g : Nat} {t : TypeId} {m k : Nat} {F F' : Nat → Value} (h : Fill w g t m k F) (hf : ∀ i, i < k → F i = F' i) : Fill w g t m k F' := by
  obtain ⟨f, h, hF⟩ := h
  exact ⟨f, h, fun i hi => (hF i hi).trans (hf i hi)⟩
/-- What a function leaves that answers a list of segments in new memory. -/
def RetGs (w : World) (gs : List SgR) (e : Ending) (w' : World) : Prop := ∃ (A : Option Addr) (c : Nat) (gs' : List SgR), e = .returned (.slice A gs'.length c) ∧ gs'.map SgR.v = gs.map SgR.v ∧ SgO w' w.heap.size A gs' ∧ Nx w w'
set_option maxRecDepth 100000 in
set_option maxHeartbeats 2000000 in
/-- .. with room for what it holds. -/
def RetGsc (w : World) (gs : List SgR) (e : Ending) (w' : World) : Prop := ∃ (A : Option Addr) (c : Nat) (gs' : List SgR), e = .returned (.slice A gs'.length c) ∧ gs'.map SgR.v = gs.map SgR.v ∧ gs'.length ≤ c ∧ SgO w' w.heap.size A gs' ∧ Nx w w'
set_option maxRecDepth 100000 in
set_option maxHeartbeats 2000000 in
theorem toSegSc_c (A : Option Addr) (c B : Nat) (gs : List SgR) (w : World) (h : Sgs w B A gs) (hB : B ≤ w.heap.size) (hn : gs.length ≤ 1048576) (hm : ∀ k, k < gs.length → (gs.getD k sgZ).cs.length ≤ 1048576) :
    Calls Try.prog 65 #[.slice A gs.length c] w (RetGsc w gs) := by
  obtain ⟨n, Hn⟩ : ∃ n, Hid (gs.length = n) := ⟨_, rfl⟩
  rw [Hn.out] at hn ⊢
  obtain ⟨i0, hi0, hz0, hz1, hz2⟩ := info_parts info_sg
  have hmk := fun W => run_make_rowN (P := Try.prog) 34 54 i0 _ Try.underlying34 hi0 hz0 .i64 .i64 n n (Nat.le_refl _) (by rw [hz2]; omega) (by omega) W
  rw [hz1] at hmk
  have hmade := Own.made w #[Value.int .i64 0, Value.int .i64 0, Value.int .i64 0, Value.slice none 0 0] (n * 4) 54
  go_enter Try.func65, Try.ntmps65
  go_wp2
  go_loopw [4] (fun i wr => ∃ k : Nat, k ≤ n ∧ i = .int .i64 k ∧ Nx w wr ∧ ∃ gs' : List SgR, gs'.length = k ∧ gs'.map SgR.v = (gs.take k).map SgR.v ∧ Fill wr w.heap.size 54 (n * 4) (k * 4) (sgAt gs')
      ∧ ∀ j, j < k → Sl wr (w.heap.size + 1) (gs'.getD j sgZ).A 84 ((gs'.getD j sgZ).cs.length * 3) (chAt (gs'.getD j sgZ).cs)) (fun i _ => n - (intOf i).toNat)
  case atStart => exact ⟨0, Nat.zero_le _, rfl, (Nx.refl _).alloc _, [], rfl, rfl, Fill.start hmade, fun j hj => absurd hj (by omega)⟩
  case round =>
    obtain ⟨k, hk, rfl, hnx, gs', hl', hv', hf, hS⟩ := hrel
    by_cases hlt : k < n
    · have hlk : k < gs.length := by rw [Hn.out]; exact hlt
      obtain ⟨b, off, rfl, hb, p0, p1, p2, p3⟩ := (h.below hnx hB).row.at4 hlk
      have hch := (h.below hnx hB).chs k hlk
      have hmk' := hm k hlk
      have Hv := Lib.hid (show (gs.take (k + 1)).map SgR.v = (gs.take k).map SgR.v ++ [(gs.getD k sgZ).v] by
        rw [List.take_succ_eq_append_getElem hlk, List.map_append, List.getD_eq_getElem?_getD, List.getElem?_eq_getElem hlk]; rfl)
      clear hmk hmade h hm
      have hlw := hf.lt
      obtain ⟨⟨f, t, m, A2, cc, cs⟩, Hs⟩ : ∃ s, Hid (gs.getD k sgZ = s) := ⟨_, rfl⟩
      rw [Hs.out] at p0 p1 p2 p3 hch hmk' Hv
      simp only at p0 p1 p2 p3 hch hmk'
      go_wp2_with fail
      refine (toSeg_c f t m A2 cc B cs _ hch (Nat.le_trans hB hnx.size) hmk').mono ?_
      rintro e w1 ⟨A3, c3, rfl, hS3, hnx1⟩
      have hf1 := hf.nx hnx1
      obtain ⟨v0, hv0⟩ := hf1.some_ (i := k * 4) (by omega)
      obtain ⟨v1, hv1⟩ := hf1.some_ (i := k * 4 + 1) (by omega)
      obtain ⟨v2, hv2⟩ := hf1.some_ (i := k * 4 + 2) (by omega)
      obtain ⟨v3, hv3⟩ := hf1.some_ (i := k * 4 + 3) (by omega)
      have hz0 := hf1.frozen (k * 4)
      have hz1 := hf1.frozen (k * 4 + 1)
      have hz2 := hf1.frozen (k * 4 + 2)
      have hz3 := hf1.frozen (k * 4 + 3)
      clear p0 p1 p2 p3
      have hS3' := hS3.low (lo' := w.heap.size + 1) (by omega)
      go_wp2
      go_roundw
      case rel =>
        refine ⟨k + 1, by omega, by go_num, ((((hnx.trans hnx1).setCell (Nat.le_refl _) _).setCell (Nat.le_refl _) _).setCell (Nat.le_refl _) _).setCell (Nat.le_refl _) _, gs' ++ [⟨f, t, m, A3, c3, cs⟩], by simp [hl'], ?_, ?_, ?_⟩
        · rw [Hv.out, List.map_append, hv']; rfl
        · have e2 : (k + 1) * 4 = k * 4 + 1 + 1 + 1 + 1 := by omega
          have eg : (gs' ++ [(⟨f, t, m, A3, c3, cs⟩ : SgR)]).getD k sgZ = ⟨f, t, m, A3, c3, cs⟩ := by rw [← hl']; exact getD_app _ _
          rw [e2]
          exact ((((hf1.congr fun i hi => (sgAt_app gs' _ i (by rw [hl']; exact hi)).symm).step (by omega) (by rw [sgAt0, eg])).step (by omega) (by rw [sgAt1, eg])).step (by omega) (by rw [show k * 4 + 1 + 1 = k * 4 + 2 by omega, sgAt2, eg])).step (by omega) (by rw [show k * 4 + 1 + 1 + 1 = k * 4 + 3 by omega, sgAt3, eg])
        · intro j hj
          have far : ∀ {A' : Option Addr} {cs' : List Chg}, Sl w1 (w.heap.size + 1) A' 84 (cs'.length * 3) (chAt cs') → Sl ((((w1.setCell ⟨w.heap.size, k * 4, none⟩ (.int .i64 f)).setCell ⟨w.heap.size, k * 4 + 1, none⟩ (.int .i64 t)).setCell ⟨w.heap.size, k * 4 + 2, none⟩ (.int .i64 m)).setCell ⟨w.heap.size, k * 4 + 3, none⟩ (.slice A3 cs.length c3)) (w.heap.size + 1) A' 84 (cs'.length * 3) (chAt cs') :=
            fun hh => (((hh.far (p := ⟨w.heap.size, k * 4, none⟩) (by simp) _).far (p := ⟨w.heap.size, k * 4 + 1, none⟩) (by simp) _).far (p := ⟨w.heap.size, k * 4 + 2, none⟩) (by simp) _).far (p := ⟨w.heap.size, k * 4 + 3, none⟩) (by simp) _
          by_cases hjk : j < k
          · rw [getD_app_lt gs' _ (by rw [hl']; exact hjk)]
            exact far ((hS j hjk).nx hnx1)
          · obtain rfl : j = k := by omega
            rw [show (gs' ++ [(⟨f, t, m, A3, c3, cs⟩ : SgR)]).getD j sgZ = ⟨f, t, m, A3, c3, cs⟩ by rw [← hl']; exact getD_app _ _]
            exact far hS3'
      case measure => simp [intOf]; omega
    · obtain rfl : k = n := by omega
      have hvv : gs'.map SgR.v = gs.map SgR.v := by rw [hv', ← Hn.out, List.take_length]
      go_wp2
      go_ret
      exact ⟨_, _, gs', by rw [hl']; rfl, hvv, by rw [hl']; exact Nat.le_refl _, ⟨by rw [hl']; exact Sl.own hf.done (Nat.le_refl _), fun j hj => (hS j (by rw [hl'] at hj; exact hj)).low (by omega)⟩, hnx⟩

theorem toSegS_c (A : Option Addr) (c B : Nat) (gs : List SgR) (w : World) (h : Sgs w B A gs) (hB : B ≤ w.heap.size) (hn : gs.length ≤ 1048576) (hm : ∀ k, k < gs.length → (gs.getD k sgZ).cs.length ≤ 1048576) :
    Calls Try.prog 65 #[.slice A gs.length c] w (RetGs w gs) :=
  (toSegSc_c A c B gs w h hB hn hm).mono fun e w' ⟨A', c', gs', h1, h2, _, h3, h4⟩ => ⟨A', c', gs', h1, h2, h3, h4⟩

set_option maxRecDepth 100000 in
set_option maxHeartbeats 2000000 in
theorem eqSegS_c (A A2 : Option Addr) (c c2 B : Nat) (gs hs : List SgR) (w : World) (h : Sgs w B A gs) (h2 : Sgs w B A2 hs) (hv : gs.map SgR.v = hs.map SgR.v) (hB : B ≤ w.heap.size) (hn : gs.length ≤ 1048576) (hm : ∀ k, k < gs.length → (gs.getD k sgZ).cs.length ≤ 1048576) :
    Calls Try.prog 70 #[.slice A gs.length c, .slice A2 hs.length c2] w fun e w' => e = .returned (.bool true) ∧ Nx w w' := by
  have hl := v_len hv
  obtain ⟨n, Hn⟩ : ∃ n, Hid (gs.length = n) := ⟨_, rfl⟩
  have hlh : hs.length = n := hl.symm.trans Hn.out
  have Hl := Lib.hid hlh
  rw [Hn.out] at hn ⊢
  rw [hlh]
  clear hl hlh
  go_enter Try.func70, Try.ntmps70
  go_wp2
  go_loopw [5] (fun i wr => ∃ k : Nat, k ≤ n ∧ i = .int .i64 k ∧ Nx w wr) (fun i _ => n - (intOf i).toNat)
  case atStart => exact ⟨0, Nat.zero_le _, rfl, Nx.refl _⟩
  case round =>
    obtain ⟨k, hk, rfl, hnx⟩ := hrel
    by_cases hlt : k < n
    · have hlk : k < gs.length := by rw [Hn.out]; exact hlt
      obtain ⟨b, off, rfl, hb, p0, p1, p2, p3⟩ := (h.below hnx hB).row.at4 hlk
      obtain ⟨b2, off2, rfl, hb2, q0, q1, q2, q3⟩ := (h2.below hnx hB).row.at4 (by rw [Hl.out]; exact hlt)
      have hc1 := (h.below hnx hB).chs k hlk
      have hc2 := (h2.below hnx hB).chs k (by rw [Hl.out]; exact hlt)
      have hmk := hm k hlk
      have hvk := v_at hv k
      generalize gs.getD k sgZ = s at p0 p1 p2 p3 hc1 hmk hvk
      generalize hs.getD k sgZ = s2 at q0 q1 q2 q3 hc2 hvk
      obtain ⟨f, t, m, A3, c3, cs⟩ := s
      obtain ⟨f2, t2, m2, A4, c4, cs2⟩ := s2
      unfold SgR.v at hvk
      simp only [Prod.mk.injEq] at hvk
      obtain ⟨rfl, rfl, rfl, rfl⟩ := hvk
      simp only at p0 p1 p2 p3 q0 q1 q2 q3 hc1 hc2 hmk
      go_wp2_with fail
      go_still_tail 8, (by kernel_rfl)
      change wpList _ _ _ _ _ wr.drew
      have hnx1 : Nx w wr.drew := Below.drew hnx
      have hd1 : Chs wr.drew B A3 cs := hc1
      have hd2 : Chs wr.drew B A4 cs := hc2
      have hsz : B ≤ wr.drew.heap.size := Nat.le_trans hB hnx.size
      generalize wr.drew = wd at *
      go_wp2_with fail
      refine (eqSeg_c f t m A3 A4 c3 c4 B cs _ hd1 hd2 hsz hmk).mono ?_
      rintro e w1 ⟨rfl, hnx2⟩
      go_wp2
      go_roundw
      case rel => exact ⟨k + 1, by omega, by go_num, hnx1.trans hnx2⟩
      case measure => simp [intOf]; omega
    · go_wp2
      go_ret
      exact ⟨rfl, hnx⟩
end Go.Proofs.Ytihpadelfpogmaa
