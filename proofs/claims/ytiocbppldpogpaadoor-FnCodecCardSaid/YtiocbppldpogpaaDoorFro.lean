/-
  Contract of the laws' frameOf.
  Conditions: a text of 27 bytes, 24 of them digits.
-/
import Derived.Test.YtiocbppldpogpaaDoorCdf
import Derived.Test.YtiocbppldpogpaaDoorPln
import Derived.StillTailTactics
namespace Go.Proofs.YtiocbppldpogpaaDoor
set_option linter.unusedVariables false
open Go.RowKit
/-- The number q of a text, as far as byte i. -/
def vaT (t : ByteArray) (i q : Nat) : Nat := valL ((t.data.toList.drop (6 * q)).take (min (i - 6 * q) 6))
theorem vaT_same {t : ByteArray} {i q : Nat} (h : i / 6 ≠ q) : vaT t (i + 1) q = vaT t i q := by
  unfold vaT
  rw [show min (i + 1 - 6 * q) 6 = min (i - 6 * q) 6 by omega]
theorem vaT_next {t : ByteArray} {i q : Nat} (h : i / 6 = q) (hi : i < t.size) : vaT t (i + 1) q = 10 * vaT t i q + (t[i].toNat - 48) := by
  unfold vaT
  rw [show min (i + 1 - 6 * q) 6 = (i - 6 * q) + 1 by omega, show min (i - 6 * q) 6 = i - 6 * q by omega]
  have := valFrom_succ t (6 * q) (i - 6 * q) (by omega)
  unfold valFrom at this
  rw [this]
  congr 3
  · congr 1; omega
theorem vaT_bd {t : ByteArray} {i q : Nat} (hd : digL (t.data.toList.take 24) = true) (hq : q < 4) : vaT t i q < 1000000 := by
  unfold vaT
  have h1 : digL ((t.data.toList.drop (6 * q)).take (min (i - 6 * q) 6)) = true := by
    unfold digL at hd ⊢
    rw [List.all_eq_true] at hd ⊢
    intro x hx
    refine hd x ?_
    obtain ⟨j, hj, e⟩ := List.mem_iff_getElem.1 hx
    rw [List.getElem_take, List.getElem_drop] at e
    rw [List.length_take, List.length_drop] at hj
    rw [← e]
    have : 6 * q + j < (t.data.toList.take 24).length := by rw [List.length_take]; omega
    have e2 : (t.data.toList.take 24)[6 * q + j] = t.data.toList[6 * q + j]'(by rw [List.length_take] at this; omega) := List.getElem_take
    rw [← e2]
    exact List.getElem_mem _
  have h2 := valL_bd _ rfl h1
  refine Nat.lt_of_lt_of_le h2 (Nat.le_trans (Nat.pow_le_pow_right (by decide) (show _ ≤ 6 by rw [List.length_take]; omega)) (by decide))
def vaV (t : ByteArray) (i : Nat) : Array Value := #[.int .i64 (vaT t i 0 : Int), .int .i64 (vaT t i 1 : Int), .int .i64 (vaT t i 2 : Int), .int .i64 (vaT t i 3 : Int)]
theorem vaV_next {t : ByteArray} {i : Nat} (hi : i < 24) (v : Nat) (hv : vaT t (i + 1) (i / 6) = v) : (vaV t i).setIfInBounds (i / 6) (.int .i64 (v : Int)) = vaV t (i + 1) := by
  have hq : i / 6 < 4 := by omega
  unfold vaV
  rcases (show i / 6 = 0 ∨ i / 6 = 1 ∨ i / 6 = 2 ∨ i / 6 = 3 by omega) with h | h | h | h
  all_goals rw [h] at hv ⊢; rw [hv.symm]
  · rw [vaT_same (q := 1) (by omega), vaT_same (q := 2) (by omega), vaT_same (q := 3) (by omega)]; rfl
  · rw [vaT_same (q := 0) (by omega), vaT_same (q := 2) (by omega), vaT_same (q := 3) (by omega)]; rfl
  · rw [vaT_same (q := 0) (by omega), vaT_same (q := 1) (by omega), vaT_same (q := 3) (by omega)]; rfl
  · rw [vaT_same (q := 0) (by omega), vaT_same (q := 1) (by omega), vaT_same (q := 2) (by omega)]; rfl
theorem vaV_get {t : ByteArray} {i q : Nat} (hq : q < 4) : (vaV t i)[q]? = some (.int .i64 (vaT t i q : Int)) := by
  unfold vaV
  match q, hq with
  | 0, _ => rfl
  | 1, _ => rfl
  | 2, _ => rfl
  | 3, _ => rfl
set_option maxRecDepth 100000 in
set_option maxHeartbeats 4000000 in
theorem frameOf_c (t : ByteArray) (w : World) (ht : t.size = 27) (hd : digL (t.data.toList.take 24) = true) :
    Calls Tryd.prog 20 #[.string t] w fun e w' => e = .returned (vF (vaT t 24 0, vaT t 24 1, vaT t 24 2, vaT t 24 3)) ∧ Nx w w' := by
  have HD := Lib.hid hd
  have hts : 24 < t.size := by omega
  clear hd ht
  have b0 := (Box.new w 28 #[.int .i64 0, .int .i64 0, .int .i64 0, .int .i64 0]).alloc (.cells #[.int .i64 0, .int .i64 0, .int .i64 0, .int .i64 0] 68)
  have n0 := Box.new (w.alloc (.cells #[.int .i64 0, .int .i64 0, .int .i64 0, .int .i64 0] 28)) 68 #[.int .i64 0, .int .i64 0, .int .i64 0, .int .i64 0]
  simp only [World.size_alloc] at n0
  have hx0 := ((Nx.refl w).alloc (.cells #[.int .i64 0, .int .i64 0, .int .i64 0, .int .i64 0] 28)).alloc (.cells #[.int .i64 0, .int .i64 0, .int .i64 0, .int .i64 0] 68)
  go_enter Tryd.func20, Tryd.ntmps20
  go_wp2
  generalize (w.alloc (.cells #[.int .i64 0, .int .i64 0, .int .i64 0, .int .i64 0] 28)).alloc (.cells #[.int .i64 0, .int .i64 0, .int .i64 0, .int .i64 0] 68) = W at *
  obtain ⟨gN, HgN⟩ : ∃ x, Hid (w.heap.size + 1 = x) := ⟨_, rfl⟩
  rw [HgN.out] at n0 ⊢
  have hgN : w.heap.size < gN := by have := HgN.out; omega
  go_loopw [4] (fun i wr => ∃ k : Nat, k ≤ 24 ∧ i = .int .i64 k ∧ Box wr gN 68 (vaV t k) ∧ Box wr w.heap.size 28 #[.int .i64 0, .int .i64 0, .int .i64 0, .int .i64 0] ∧ Nx w wr) (fun i _ => 24 - (intOf i).toNat)
  case atStart => exact ⟨0, by omega, rfl, n0, b0, hx0⟩
  case round =>
    obtain ⟨k, hk, rfl, bn, br, hx⟩ := hrel
    clear n0 b0 hx0
    by_cases hlt : k < 24
    · have hlt' : (k : Int) < 24 := by omega
      obtain ⟨q, Hq⟩ : ∃ q, Hid (k / 6 = q) := ⟨_, rfl⟩
      have hq : q < 4 := by have := Hq.out; omega
      obtain ⟨x, Hx⟩ : ∃ x, Hid (vaT t k q = x) := ⟨_, rfl⟩
      have hx6 : x < 1000000 := by rw [← Hx.out]; exact vaT_bd HD.out hq
      have hkt : k < t.size := by omega
      have hc : 48 ≤ (t[k].toNat : Int) ∧ (t[k].toNat : Int) ≤ 57 := by
        have := digL_yes HD.out (k := k) (by rw [List.length_take, ← ba_size]; omega)
        rw [List.getElem_take] at this
        exact digI_yes this
      have hv := vaT_next (t := t) (i := k) rfl hkt
      have c0 : wr.cell? ⟨gN, q, none⟩ = some (.int .i64 (x : Int)) := by rw [bn.cell, vaV_get hq, Hx.out]
      have f0 := bn.frozen q
      have e1 : (k : Int).tdiv 6 = (q : Int) := by rw [Int.tdiv_eq_ediv_of_nonneg (by omega)]; have := Hq.out; omega
      have e2 : (k : Int) / 6 = (q : Int) := by have := Hq.out; omega
      have q1 : (q : Int) < 4 := by omega
      have wq : IntKind.i64.wrap (q : Int) = q := IntWalk.i64_in _ (by omega)
      have wx : IntKind.i64.wrap ((x : Int) * 10) = (x : Int) * 10 := IntWalk.i64_in _ (by omega)
      have w3 : IntKind.i64.wrap ((t[k].toNat : Int) - 48) = (t[k].toNat : Int) - 48 := IntWalk.i64_in _ (by omega)
      have w4 : IntKind.i64.wrap ((x : Int) * 10 + ((t[k].toNat : Int) - 48)) = (x : Int) * 10 + ((t[k].toNat : Int) - 48) := IntWalk.i64_in _ (by omega)
      have hk0 : (0 : Int) ≤ (k : Int) := by omega
      have hkT : (k : Int) < (t.size : Int) := by omega
      have bd := bn.nx (Nx.refl wr).drew
      have brd := br.nx (Nx.refl wr).drew
      have hxd := hx.drew
      clear bn br hx c0 f0
      go_wp2_with fail
      refine wp_region_plan (.t 0 (.t 1 (.t 2 (.t 3 (.t 4 (.t 7 (.t 8 (.t 9 (.t 10 (.t 11 (.c 5 (.t 6 (.t 12 (.t 13 (.c 14 .e))))))))))))))) (fun _ => True) (by kernel_rfl) (by kernel_rfl) rfl (by kernel_rfl) (fun _ _ d _ _ h => by cases d <;> exact h) (by exact True.intro) ?_
      simp only [psOf, List.getD_cons_zero, List.getD_cons_succ]
      repeat (first | (refine HP.take (v := ?_) (by rfl) ?_ ?_; rotate_left; (· (intro w hSw; (try dsimp only at hSw); go_simp; try with_reducible rfl)); (try simp only [Act.put, List.setIfInBounds_toArray, List.set_cons_zero, List.set_cons_succ])) | (refine HP.skip (by rfl) ?_; (try simp only [Act.put, List.setIfInBounds_toArray, List.set_cons_zero, List.set_cons_succ])))
      change HP _ _ _ _ _ _ wr.drew
      generalize wr.drew = wd at *
      have c0 : wd.cell? ⟨gN, q, none⟩ = some (.int .i64 (x : Int)) := by rw [bd.cell, vaV_get hq, Hx.out]
      have f0 := bd.frozen q
      refine HP.call ?_
      refine CallStep.mk (by rfl) (fun K hK => ?_)
      go_simp
      refine hK.out _ _ (by exact True.intro) ?_
      clear hK K
      try simp only [Act.put, List.setIfInBounds_toArray, List.set_cons_zero, List.set_cons_succ]
      repeat (first | (refine HP.take (v := ?_) (by rfl) ?_ ?_; rotate_left; (· (intro w hSw; (try dsimp only at hSw); go_simp; try with_reducible rfl)); (try simp only [Act.put, List.setIfInBounds_toArray, List.set_cons_zero, List.set_cons_succ])) | (refine HP.skip (by rfl) ?_; (try simp only [Act.put, List.setIfInBounds_toArray, List.set_cons_zero, List.set_cons_succ])))
      refine HP.call ?_
      refine CallStep.mk (by rfl) (fun K hK => ?_)
      go_simp
      refine hK.out _ _ (by exact True.intro) ?_
      clear hK K
      try simp only [Act.put, List.setIfInBounds_toArray, List.set_cons_zero, List.set_cons_succ]
      refine HP.done ?_
      obtain ⟨z, hz⟩ : ∃ z : Nat, (x : Int) * 10 + ((t[k].toNat : Int) - 48) = (z : Int) := ⟨10 * x + (t[k].toNat - 48), by omega⟩
      have hvz : vaT t (k + 1) (k / 6) = z := by rw [hv, Hq.out, Hx.out]; omega
      have b3 := bd.set q (.int .i64 (z : Int))
      rw [← Hq.out, vaV_next hlt z hvz, Hq.out] at b3
      have br3 := brd.far (p := ⟨gN, q, none⟩) (by simp; omega) (.int .i64 (z : Int))
      have hx3 := hxd.setCell (p := ⟨gN, q, none⟩) (by simp; omega) (.int .i64 (z : Int))
      rw [← hz] at b3 br3 hx3
      clear hz
      go_wp2
      go_roundw
      case rel => exact ⟨k + 1, by omega, by go_num, b3, br3, hx3⟩
      case measure => simp [intOf]; omega
    · obtain rfl : k = 24 := by omega
      have bn' : Box wr gN 68 #[.int .i64 (vaT t 24 0 : Int), .int .i64 (vaT t 24 1 : Int), .int .i64 (vaT t 24 2 : Int), .int .i64 (vaT t 24 3 : Int)] := bn
      clear bn
      obtain ⟨y0, Hy0⟩ : ∃ y, Hid (vaT t 24 0 = y) := ⟨_, rfl⟩
      obtain ⟨y1, Hy1⟩ : ∃ y, Hid (vaT t 24 1 = y) := ⟨_, rfl⟩
      obtain ⟨y2, Hy2⟩ : ∃ y, Hid (vaT t 24 2 = y) := ⟨_, rfl⟩
      obtain ⟨y3, Hy3⟩ : ∃ y, Hid (vaT t 24 3 = y) := ⟨_, rfl⟩
      rw [Hy0.out, Hy1.out, Hy2.out, Hy3.out] at bn'
      obtain ⟨x0, x1, x2, x3⟩ := bn'.d4
      obtain ⟨c0, c1, c2, c3⟩ := br.d4
      have f0 := br.frozen 0
      have f1 := br.frozen 1
      have f2 := br.frozen 2
      have f3 := br.frozen 3
      go_wp2
      have q := put4_box br (.int .i64 y0) (.int .i64 y1) (.int .i64 y2) (.int .i64 y3)
      have hnf := put4_nx hx (Nat.le_refl w.heap.size) (.int .i64 y0) (.int .i64 y1) (.int .i64 y2) (.int .i64 y3)
      change bodyPost _ _ _ _ _ (put4 wr w.heap.size (.int .i64 y0) (.int .i64 y1) (.int .i64 y2) (.int .i64 y3))
      generalize put4 wr w.heap.size (.int .i64 y0) (.int .i64 y1) (.int .i64 y2) (.int .i64 y3) = Wf at *
      obtain ⟨g0, g1, g2, g3⟩ := q.d4
      exact bodyPost_ret (v := .agg #[.int .i64 y0, .int .i64 y1, .int .i64 y2, .int .i64 y3]) (by simp [results, Tryd.results20, go_sem, g0, g1, g2, g3]) rfl ⟨by rw [Hy0.out, Hy1.out, Hy2.out, Hy3.out]; rfl, hnf⟩
end Go.Proofs.YtiocbppldpogpaaDoor
