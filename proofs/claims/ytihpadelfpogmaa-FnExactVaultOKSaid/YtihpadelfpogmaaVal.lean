/-
  Contracts of the program's methods of arrays of values: list, forward, backward.
  Conditions: the segment can be read and is right.
-/
import Derived.Test.YtihpadelfpogmaaFwd
namespace Go.Proofs.Ytihpadelfpogmaa
set_option linter.unusedVariables false
set_option maxRecDepth 100000
open Go.RowKit

def pN (c : Chg) : Int := c.2.1
def pO (c : Chg) : Int := c.2.2
/-- A content with what the changes say. -/
def app (p : Chg → Int) (xs : List Int) (cs : List Chg) : List Int := cs.foldl (fun xs c => xs.set c.1.toNat (p c)) xs
theorem app_len (p : Chg → Int) (cs : List Chg) : ∀ xs, (app p xs cs).length = xs.length := by
  induction cs with
  | nil => intro xs; rfl
  | cons c cs ih => intro xs; show (app p (xs.set c.1.toNat (p c)) cs).length = _; rw [ih]; simp
theorem app_succ (p : Chg → Int) (xs : List Int) (cs : List Chg) {k : Nat} (hk : k < cs.length) : app p xs (cs.take (k + 1)) = (app p xs (cs.take k)).set (cs.getD k chZ).1.toNat (p (cs.getD k chZ)) := by
  unfold app
  rw [List.take_succ_eq_append_getElem hk, List.foldl_append, List.getD_eq_getElem?_getD, List.getElem?_eq_getElem hk]
  rfl
theorem inAt_set {ys : List Int} {n i : Nat} (v : Int) (hn : n < ys.length) : inAt (ys.set n v) i = if i = n then .int .i64 v else inAt ys i := by
  unfold inAt
  by_cases h : i = n
  · subst h; rw [if_pos rfl, List.getD_eq_getElem?_getD, List.getElem?_set_self hn]; rfl
  · rw [if_neg h, List.getD_eq_getElem?_getD, List.getD_eq_getElem?_getD, List.getElem?_set_ne (fun e => h e.symm)]
theorem box_inAt {w : World} {g : Nat} {t : TypeId} {xs : List Int} (h : Box w g t #[inAt xs 0, inAt xs 1, inAt xs 2, inAt xs 3, inAt xs 4, inAt xs 5, inAt xs 6, inAt xs 7]) : Own w g t 8 (inAt xs) := by
  refine h.own.congr fun i hi => ?_
  match i, hi with
  | 0, _ => rfl
  | 1, _ => rfl
  | 2, _ => rfl
  | 3, _ => rfl
  | 4, _ => rfl
  | 5, _ => rfl
  | 6, _ => rfl
  | 7, _ => rfl

set_option maxHeartbeats 1000000 in
theorem valuesList_c (xs : List Int) (w : World) (h8 : xs.length = 8) : Calls Try.prog 88 #[vA xs] w (RetI w xs) := by
  have b0 := Box.new w 99 #[inAt xs 0, inAt xs 1, inAt xs 2, inAt xs 3, inAt xs 4, inAt xs 5, inAt xs 6, inAt xs 7]
  have hx0 := (Nx.refl w).alloc (.cells #[inAt xs 0, inAt xs 1, inAt xs 2, inAt xs 3, inAt xs 4, inAt xs 5, inAt xs 6, inAt xs 7] 99)
  unfold vA
  go_enter Try.func88, Try.ntmps88
  have H8 := Lib.hid h8
  clear h8
  go_wp2_with fail
  generalize w.alloc (.cells #[inAt xs 0, inAt xs 1, inAt xs 2, inAt xs 3, inAt xs 4, inAt xs 5, inAt xs 6, inAt xs 7] 99) = W at *
  have hc := copyListI_c (some ⟨w.heap.size, 0, none⟩) 8 W.heap.size xs W (by have := (box_inAt b0).row (B := W.heap.size) b0.lt; unfold Ins; rw [H8.out]; exact this) (Nat.le_refl _) (by rw [H8.out]; omega)
  rw [H8.out] at hc
  refine hc.mono ?_
  rintro e w1 ⟨A1, c1, rfl, hS1, hx1⟩
  go_wp2
  go_ret
  exact ⟨A1, c1, rfl, hS1.low hx0.size, hx0.trans hx1⟩

set_option maxRecDepth 100000 in
set_option maxHeartbeats 4000000 in
theorem valuesForward_c (f t m : Int) (A : Option Addr) (c B : Nat) (cs : List Chg) (xs : List Int) (w : World) (h : Chs w B A cs) (hB : B ≤ w.heap.size) (hok : chsB cs = true) (h8 : xs.length = 8) :
    Calls Try.prog 110 #[vA xs, .agg #[.int .i64 f, .int .i64 t, .int .i64 m, .slice A cs.length c]] w fun e w' => e = .returned (vA (app pN xs cs)) ∧ Nx w w' := by
  have b0 := ((Box.new w 99 #[inAt xs 0, inAt xs 1, inAt xs 2, inAt xs 3, inAt xs 4, inAt xs 5, inAt xs 6, inAt xs 7]).alloc (.cells #[.int .i64 f, .int .i64 t, .int .i64 m, .slice A cs.length c] 54)).alloc (.cells zA 99)
  have r0 := Box.new ((w.alloc (.cells #[inAt xs 0, inAt xs 1, inAt xs 2, inAt xs 3, inAt xs 4, inAt xs 5, inAt xs 6, inAt xs 7] 99)).alloc (.cells #[.int .i64 f, .int .i64 t, .int .i64 m, .slice A cs.length c] 54)) 99 zA
  have hx0 := (((Nx.refl w).alloc (.cells #[inAt xs 0, inAt xs 1, inAt xs 2, inAt xs 3, inAt xs 4, inAt xs 5, inAt xs 6, inAt xs 7] 99)).alloc (.cells #[.int .i64 f, .int .i64 t, .int .i64 m, .slice A cs.length c] 54)).alloc (.cells zA 99)
  simp only [World.size_alloc] at r0
  unfold zA at r0 b0 hx0
  unfold vA
  have H8 := Lib.hid h8
  have hl8 := chsB_len hok
  have hto := chsB_to hok
  clear h8 hok
  go_enter Try.func110, Try.ntmps110
  go_wp2_with fail
  generalize (((w.alloc (.cells #[inAt xs 0, inAt xs 1, inAt xs 2, inAt xs 3, inAt xs 4, inAt xs 5, inAt xs 6, inAt xs 7] 99)).alloc (.cells #[.int .i64 f, .int .i64 t, .int .i64 m, .slice A cs.length c] 54)).alloc (.cells #[.int .i64 0, .int .i64 0, .int .i64 0, .int .i64 0, .int .i64 0, .int .i64 0, .int .i64 0, .int .i64 0] 99)) = W at *
  have hW := r0.lt
  go_loopw [10] (fun i wr => ∃ k : Nat, k ≤ cs.length ∧ i = .int .i64 k ∧ Own wr w.heap.size 99 8 (inAt (app pN xs (cs.take k))) ∧ Box wr (w.heap.size + 1 + 1) 99 #[.int .i64 0, .int .i64 0, .int .i64 0, .int .i64 0, .int .i64 0, .int .i64 0, .int .i64 0, .int .i64 0] ∧ Nx w wr) (fun i _ => cs.length - (intOf i).toNat)
  case atStart => exact ⟨0, Nat.zero_le _, rfl, box_inAt b0, r0, hx0⟩
  case round =>
    obtain ⟨k, hk, rfl, hown, hbox, hnx⟩ := hrel
    clear b0 r0 hx0
    by_cases hlt : k < cs.length
    · obtain ⟨b, off, rfl, hb, k0, k1, k2⟩ := (h.below hnx hB).at_ hlt
      obtain ⟨hr0, hr1⟩ := hto.rise k hlt
      obtain ⟨⟨q0, q1, q2⟩, Hq⟩ : ∃ q, Hid (cs.getD k chZ = q) := ⟨_, rfl⟩
      rw [Hq.out] at k0 k1 k2 hr0 hr1
      obtain ⟨n0, rfl⟩ : ∃ n : Nat, q0 = n := ⟨q0.toNat, by simp only at hr0; omega⟩
      have hn0 : n0 < 8 := by simp only at hr1; omega
      clear hr0 hr1
      obtain ⟨v, hv⟩ : ∃ v, wr.cell? ⟨w.heap.size, n0, none⟩ = some v := ⟨_, hown.cell hn0⟩
      have hz := hown.frozen n0
      have hlt2 : w.heap.size < wr.heap.size := hown.lt
      go_wp2
      go_roundw
      case rel =>
        have hal := (hown.set (k := n0) hn0 (.int .i64 q1)).alloc (.cells #[.int .i64 (n0 : Int), .int .i64 q1, .int .i64 q2] 84)
        refine ⟨k + 1, by omega, by go_num, hal.congr fun i hi => ?_, (hbox.far (p := ⟨w.heap.size, n0, none⟩) (by simp; omega) _).alloc _, (hnx.setCell (p := ⟨w.heap.size, n0, none⟩) (Nat.le_refl _) _).alloc _⟩
        rw [app_succ pN xs cs hlt, Hq.out]
        rw [inAt_set _ (by rw [app_len, H8.out]; simpa using hn0)]
        simp [pN]
      case measure => simp [intOf]; omega
    · obtain rfl : k = cs.length := by omega
      rw [List.take_length] at hown
      obtain ⟨y0, y1, y2, y3, y4, y5, y6, y7, hy⟩ := list8 (show (app pN xs cs).length = 8 by rw [app_len, H8.out])
      rw [hy] at hown
      have Hy := Lib.hid hy
      clear hy
      obtain ⟨c0, c1, c2, c3, c4, c5, c6, c7⟩ := hown.d8
      change wr.cell? _ = some (.int .i64 y0) at c0
      change wr.cell? _ = some (.int .i64 y1) at c1
      change wr.cell? _ = some (.int .i64 y2) at c2
      change wr.cell? _ = some (.int .i64 y3) at c3
      change wr.cell? _ = some (.int .i64 y4) at c4
      change wr.cell? _ = some (.int .i64 y5) at c5
      change wr.cell? _ = some (.int .i64 y6) at c6
      change wr.cell? _ = some (.int .i64 y7) at c7
      obtain ⟨s0, s1, s2, s3, s4, s5, s6, s7⟩ := hbox.own.d8
      have f0 := hbox.frozen 0
      have f1 := hbox.frozen 1
      have f2 := hbox.frozen 2
      have f3 := hbox.frozen 3
      have f4 := hbox.frozen 4
      have f5 := hbox.frozen 5
      have f6 := hbox.frozen 6
      have f7 := hbox.frozen 7
      go_wp2_with fail
      have q := put8_own hbox.own y0 y1 y2 y3 y4 y5 y6 y7
      have hxf := put8_nx (g := w.heap.size + 1 + 1) hnx (by omega) y0 y1 y2 y3 y4 y5 y6 y7
      unfold put8 at q hxf
      generalize (((((((wr.setCell ⟨w.heap.size + 1 + 1, 0, none⟩ (.int .i64 y0)).setCell ⟨w.heap.size + 1 + 1, 1, none⟩ (.int .i64 y1)).setCell ⟨w.heap.size + 1 + 1, 2, none⟩ (.int .i64 y2)).setCell ⟨w.heap.size + 1 + 1, 3, none⟩ (.int .i64 y3)).setCell ⟨w.heap.size + 1 + 1, 4, none⟩ (.int .i64 y4)).setCell ⟨w.heap.size + 1 + 1, 5, none⟩ (.int .i64 y5)).setCell ⟨w.heap.size + 1 + 1, 6, none⟩ (.int .i64 y6)).setCell ⟨w.heap.size + 1 + 1, 7, none⟩ (.int .i64 y7) = Wf at *
      obtain ⟨g0, g1, g2, g3, g4, g5, g6, g7⟩ := q.d8
      exact bodyPost_ret (v := vA [y0, y1, y2, y3, y4, y5, y6, y7]) (by simp [results, Try.results110, go_sem, g0, g1, g2, g3, g4, g5, g6, g7, vA]) rfl ⟨congrArg Ending.returned (by show vA _ = vA _; rw [Hy.out]), hxf⟩

set_option maxRecDepth 100000 in
set_option maxHeartbeats 4000000 in
theorem valuesBackward_c (f t m : Int) (A : Option Addr) (c B : Nat) (cs : List Chg) (xs : List Int) (w : World) (h : Chs w B A cs) (hB : B ≤ w.heap.size) (hok : chsB cs = true) (h8 : xs.length = 8) :
    Calls Try.prog 112 #[vA xs, .agg #[.int .i64 f, .int .i64 t, .int .i64 m, .slice A cs.length c]] w fun e w' => e = .returned (vA (app pO xs cs)) ∧ Nx w w' := by
  have b0 := ((Box.new w 99 #[inAt xs 0, inAt xs 1, inAt xs 2, inAt xs 3, inAt xs 4, inAt xs 5, inAt xs 6, inAt xs 7]).alloc (.cells #[.int .i64 f, .int .i64 t, .int .i64 m, .slice A cs.length c] 54)).alloc (.cells zA 99)
  have r0 := Box.new ((w.alloc (.cells #[inAt xs 0, inAt xs 1, inAt xs 2, inAt xs 3, inAt xs 4, inAt xs 5, inAt xs 6, inAt xs 7] 99)).alloc (.cells #[.int .i64 f, .int .i64 t, .int .i64 m, .slice A cs.length c] 54)) 99 zA
  have hx0 := (((Nx.refl w).alloc (.cells #[inAt xs 0, inAt xs 1, inAt xs 2, inAt xs 3, inAt xs 4, inAt xs 5, inAt xs 6, inAt xs 7] 99)).alloc (.cells #[.int .i64 f, .int .i64 t, .int .i64 m, .slice A cs.length c] 54)).alloc (.cells zA 99)
  simp only [World.size_alloc] at r0
  unfold zA at r0 b0 hx0
  unfold vA
  have H8 := Lib.hid h8
  have hl8 := chsB_len hok
  have hto := chsB_to hok
  clear h8 hok
  go_enter Try.func112, Try.ntmps112
  go_wp2_with fail
  generalize (((w.alloc (.cells #[inAt xs 0, inAt xs 1, inAt xs 2, inAt xs 3, inAt xs 4, inAt xs 5, inAt xs 6, inAt xs 7] 99)).alloc (.cells #[.int .i64 f, .int .i64 t, .int .i64 m, .slice A cs.length c] 54)).alloc (.cells #[.int .i64 0, .int .i64 0, .int .i64 0, .int .i64 0, .int .i64 0, .int .i64 0, .int .i64 0, .int .i64 0] 99)) = W at *
  have hW := r0.lt
  go_loopw [10] (fun i wr => ∃ k : Nat, k ≤ cs.length ∧ i = .int .i64 k ∧ Own wr w.heap.size 99 8 (inAt (app pO xs (cs.take k))) ∧ Box wr (w.heap.size + 1 + 1) 99 #[.int .i64 0, .int .i64 0, .int .i64 0, .int .i64 0, .int .i64 0, .int .i64 0, .int .i64 0, .int .i64 0] ∧ Nx w wr) (fun i _ => cs.length - (intOf i).toNat)
  case atStart => exact ⟨0, Nat.zero_le _, rfl, box_inAt b0, r0, hx0⟩
  case round =>
    obtain ⟨k, hk, rfl, hown, hbox, hnx⟩ := hrel
    clear b0 r0 hx0
    by_cases hlt : k < cs.length
    · obtain ⟨b, off, rfl, hb, k0, k1, k2⟩ := (h.below hnx hB).at_ hlt
      obtain ⟨hr0, hr1⟩ := hto.rise k hlt
      obtain ⟨⟨q0, q1, q2⟩, Hq⟩ : ∃ q, Hid (cs.getD k chZ = q) := ⟨_, rfl⟩
      rw [Hq.out] at k0 k1 k2 hr0 hr1
      obtain ⟨n0, rfl⟩ : ∃ n : Nat, q0 = n := ⟨q0.toNat, by simp only at hr0; omega⟩
      have hn0 : n0 < 8 := by simp only at hr1; omega
      clear hr0 hr1
      obtain ⟨v, hv⟩ : ∃ v, wr.cell? ⟨w.heap.size, n0, none⟩ = some v := ⟨_, hown.cell hn0⟩
      have hz := hown.frozen n0
      have hlt2 : w.heap.size < wr.heap.size := hown.lt
      go_wp2
      go_roundw
      case rel =>
        have hal := (hown.set (k := n0) hn0 (.int .i64 q2)).alloc (.cells #[.int .i64 (n0 : Int), .int .i64 q1, .int .i64 q2] 84)
        refine ⟨k + 1, by omega, by go_num, hal.congr fun i hi => ?_, (hbox.far (p := ⟨w.heap.size, n0, none⟩) (by simp; omega) _).alloc _, (hnx.setCell (p := ⟨w.heap.size, n0, none⟩) (Nat.le_refl _) _).alloc _⟩
        rw [app_succ pO xs cs hlt, Hq.out]
        rw [inAt_set _ (by rw [app_len, H8.out]; simpa using hn0)]
        simp [pO]
      case measure => simp [intOf]; omega
    · obtain rfl : k = cs.length := by omega
      rw [List.take_length] at hown
      obtain ⟨y0, y1, y2, y3, y4, y5, y6, y7, hy⟩ := list8 (show (app pO xs cs).length = 8 by rw [app_len, H8.out])
      rw [hy] at hown
      have Hy := Lib.hid hy
      clear hy
      obtain ⟨c0, c1, c2, c3, c4, c5, c6, c7⟩ := hown.d8
      change wr.cell? _ = some (.int .i64 y0) at c0
      change wr.cell? _ = some (.int .i64 y1) at c1
      change wr.cell? _ = some (.int .i64 y2) at c2
      change wr.cell? _ = some (.int .i64 y3) at c3
      change wr.cell? _ = some (.int .i64 y4) at c4
      change wr.cell? _ = some (.int .i64 y5) at c5
      change wr.cell? _ = some (.int .i64 y6) at c6
      change wr.cell? _ = some (.int .i64 y7) at c7
      obtain ⟨s0, s1, s2, s3, s4, s5, s6, s7⟩ := hbox.own.d8
      have f0 := hbox.frozen 0
      have f1 := hbox.frozen 1
      have f2 := hbox.frozen 2
      have f3 := hbox.frozen 3
      have f4 := hbox.frozen 4
      have f5 := hbox.frozen 5
      have f6 := hbox.frozen 6
      have f7 := hbox.frozen 7
      go_wp2_with fail
      have q := put8_own hbox.own y0 y1 y2 y3 y4 y5 y6 y7
      have hxf := put8_nx (g := w.heap.size + 1 + 1) hnx (by omega) y0 y1 y2 y3 y4 y5 y6 y7
      unfold put8 at q hxf
      generalize (((((((wr.setCell ⟨w.heap.size + 1 + 1, 0, none⟩ (.int .i64 y0)).setCell ⟨w.heap.size + 1 + 1, 1, none⟩ (.int .i64 y1)).setCell ⟨w.heap.size + 1 + 1, 2, none⟩ (.int .i64 y2)).setCell ⟨w.heap.size + 1 + 1, 3, none⟩ (.int .i64 y3)).setCell ⟨w.heap.size + 1 + 1, 4, none⟩ (.int .i64 y4)).setCell ⟨w.heap.size + 1 + 1, 5, none⟩ (.int .i64 y5)).setCell ⟨w.heap.size + 1 + 1, 6, none⟩ (.int .i64 y6)).setCell ⟨w.heap.size + 1 + 1, 7, none⟩ (.int .i64 y7) = Wf at *
      obtain ⟨g0, g1, g2, g3, g4, g5, g6, g7⟩ := q.d8
      exact bodyPost_ret (v := vA [y0, y1, y2, y3, y4, y5, y6, y7]) (by simp [results, Try.results112, go_sem, g0, g1, g2, g3, g4, g5, g6, g7, vA]) rfl ⟨congrArg Ending.returned (by show vA _ = vA _; rw [Hy.out]), hxf⟩
end Go.Proofs.Ytihpadelfpogmaa
