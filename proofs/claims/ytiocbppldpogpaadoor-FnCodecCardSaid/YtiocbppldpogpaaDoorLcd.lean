/-
  The walk of the law FnCodec.
  Conditions: the lists of bytes that come in can be read; the two errors of the program lie as its text lays them.
-/
import Derived.Test.YtiocbppldpogpaaDoorBnd
namespace Go.Proofs.YtiocbppldpogpaaDoor
set_option linter.unusedVariables false
open Go.RowKit
set_option maxRecDepth 100000 in
set_option maxHeartbeats 8000000 in
theorem lawCodec (A1 : Option Addr) (n1 c1 : Nat) (ys1 : List Nat) (A2 : Option Addr) (n2 c2 : Nat) (ys2 : List Nat) (w : World) (a0 a1 : Addr) (hE : Er w a0 a1) (h1 : U8s w w.heap.size A1 n1 ys1) (hn1 : n1 ≤ 2 ^ 63 - 1) (h2 : U8s w w.heap.size A2 n2 ys2) (hn2 : n2 ≤ 2 ^ 63 - 1) :
    Calls Tryd.prog 3 #[.slice A1 n1 c1, .slice A2 n2 c2] w fun e w' => e = .returned (.bool true) ∧ Nx w w' := by
  by_cases hb1 : n1 ≤ 1048576
  case neg =>
    have d1 : decide (1048576 < (n1 : Int)) = true := by simp; omega
    go_enter Tryd.func3, Tryd.ntmps3
    go_wp2
    go_ret
    exact ⟨rfl, Nx.refl _⟩
  have d1 : decide (1048576 < (n1 : Int)) = false := by simp; omega
  by_cases hb2 : n2 ≤ 1048576
  case neg =>
    have d2 : decide (1048576 < (n2 : Int)) = true := by simp; omega
    go_enter Tryd.func3, Tryd.ntmps3
    go_wp2
    go_ret
    exact ⟨rfl, Nx.refl _⟩
  have d2 : decide (1048576 < (n2 : Int)) = false := by simp; omega
  go_enter Tryd.func3, Tryd.ntmps3
  go_wp2_with fail
  refine (segDrawn_c A1 n1 c1 ys1 _ h1 hb1).mono ?_
  rintro e w1 ⟨f, t, m, cs, A, c, rfl, hf, hl, hS, hx1⟩
  have HF := Lib.hid hf
  clear hf
  go_wp2_with fail
  have b1 := Box.new w1 25 #[.int .i64 f, .int .i64 t, .int .i64 m, .slice A cs.length c]
  have hS1 := hS.nx ((Nx.refl w1).alloc (.cells #[.int .i64 f, .int .i64 t, .int .i64 m, .slice A cs.length c] 25))
  have hX1 := hx1.alloc (.cells #[.int .i64 f, .int .i64 t, .int .i64 m, .slice A cs.length c] 25)
  clear hS hx1
  generalize w1.alloc (.cells #[.int .i64 f, .int .i64 t, .int .i64 m, .slice A cs.length c] 25) = W1 at *
  have u2 := (h2.below hX1 (Nat.le_refl _)).more hX1.size
  refine (frameDrawn_c A2 n2 c2 ys2 _ u2 hb2).mono ?_
  rintro e w2 ⟨⟨q0, q1, q2, q3⟩, rfl, hq, hx2⟩
  have HQ := Lib.hid hq
  clear hq
  rw [show vF (q0, q1, q2, q3) = .agg #[.int .i64 q0, .int .i64 q1, .int .i64 q2, .int .i64 q3] from rfl]
  have b2 := b1.nx hx2
  obtain ⟨k0, k1, k2, k3⟩ := b2.d4
  have hlt := b2.lt
  go_wp2_with fail
  have b3 := b2.alloc (.cells #[.int .i64 q0, .int .i64 q1, .int .i64 q2, .int .i64 q3] 28)
  have d3 := Box.new w2 28 #[.int .i64 q0, .int .i64 q1, .int .i64 q2, .int .i64 q3]
  have hX2 := (hX1.trans hx2).alloc (.cells #[.int .i64 q0, .int .i64 q1, .int .i64 q2, .int .i64 q3] 28)
  have hS2 := (hS1.nx hx2).nx ((Nx.refl w2).alloc (.cells #[.int .i64 q0, .int .i64 q1, .int .i64 q2, .int .i64 q3] 28))
  clear b2 hS1 k0 k1 k2 k3 hlt u2 b1
  generalize w2.alloc (.cells #[.int .i64 q0, .int .i64 q1, .int .i64 q2, .int .i64 q3] 28) = W2 at *
  have hl9 : cs.length ≤ 1048576 := by omega
  obtain ⟨s1, Hs1⟩ : ∃ x, Hid (segS f t m cs = x) := ⟨_, rfl⟩
  obtain ⟨s2, Hs2⟩ : ∃ x, Hid (frameS q0 q1 q2 q3 = x) := ⟨_, rfl⟩
  have z1 : codeB (segB f t m cs) 1 = 0 := by rw [HF.out]; rfl
  have z2 : codeB (frameB q0 q1 q2 q3) 1 = 0 := by rw [HQ.out]; rfl
  have Z1 := Lib.hid z1
  have Z2 := Lib.hid z2
  clear z1 z2
  refine (implSegText_c f t m A c W2.heap.size cs _ hS2.row (Nat.le_refl _) hl9).mono ?_
  rintro e w3 ⟨rfl, hx3⟩
  rw [Hs1.out, Z1.out]
  have b4 := b3.nx hx3
  have d4 := d3.nx hx3
  have hS3 := hS2.nx hx3
  have hX3 := hX2.trans hx3
  clear b3 d3 hS2
  obtain ⟨k0, k1, k2, k3⟩ := b4.d4
  go_wp2_with fail
  refine (specSegText_c f t m A c w3.heap.size cs _ hS3.row (Nat.le_refl _) hl9).mono ?_
  rintro e w4 ⟨rfl, hx4⟩
  rw [Hs1.out, Z1.out]
  have b5 := b4.nx hx4
  have d5 := d4.nx hx4
  have hS4 := hS3.nx hx4
  have hX4 := hX3.trans hx4
  clear b4 d4 hS3 k0 k1 k2 k3
  go_wp2_with fail
  refine (implReadSeg_c s1 _ a0 a1 (hE.nx hX4)).mono ?_
  rintro e w5 hR
  obtain ⟨hx5, A3, c3, rfl, hS5⟩ := hR.un (q0 := f) (q1 := t) (q2 := m) (cs := cs) (cd := 0) (by rw [← Hs1.out]; exact (sgA_back HF.out hl).1) (by rw [← Hs1.out]; exact (sgA_back HF.out hl).2)
  clear hR
  have b6 := b5.nx hx5
  have d6 := d5.nx hx5
  have hS6 := hS4.nx hx5
  have hX5 := hX4.trans hx5
  clear b5 d5 hS4
  obtain ⟨k0, k1, k2, k3⟩ := d6.d4
  have hlt := d6.lt
  go_wp2_with fail
  have b7 := b6.alloc (.cells #[.int .i64 f, .int .i64 t, .int .i64 m, .slice A3 cs.length c3] 25)
  have d7 := d6.alloc (.cells #[.int .i64 f, .int .i64 t, .int .i64 m, .slice A3 cs.length c3] 25)
  have e7 := Box.new w5 25 #[.int .i64 f, .int .i64 t, .int .i64 m, .slice A3 cs.length c3]
  have hS7 := hS6.nx ((Nx.refl w5).alloc (.cells #[.int .i64 f, .int .i64 t, .int .i64 m, .slice A3 cs.length c3] 25))
  have hT7 := hS5.nx ((Nx.refl w5).alloc (.cells #[.int .i64 f, .int .i64 t, .int .i64 m, .slice A3 cs.length c3] 25))
  have hX6 := hX5.alloc (.cells #[.int .i64 f, .int .i64 t, .int .i64 m, .slice A3 cs.length c3] 25)
  clear b6 d6 hS5 hS6 k0 k1 k2 k3 hlt
  generalize w5.alloc (.cells #[.int .i64 f, .int .i64 t, .int .i64 m, .slice A3 cs.length c3] 25) = W5 at *
  refine (implFrameText_c q0 q1 q2 q3 _).mono ?_
  rintro e w6 ⟨rfl, hx6⟩
  rw [Hs2.out, Z2.out]
  have b8 := b7.nx hx6
  have d8 := d7.nx hx6
  have e8 := e7.nx hx6
  have hS8 := hS7.nx hx6
  have hT8 := hT7.nx hx6
  have hX7 := hX6.trans hx6
  clear b7 d7 e7 hS7 hT7
  obtain ⟨k0, k1, k2, k3⟩ := d8.d4
  go_wp2_with fail
  refine (specFrameText_c q0 q1 q2 q3 _).mono ?_
  rintro e w7 ⟨rfl, hx7⟩
  rw [Hs2.out, Z2.out]
  have b9 := b8.nx hx7
  have d9 := d8.nx hx7
  have e9 := e8.nx hx7
  have hS9 := hS8.nx hx7
  have hT9 := hT8.nx hx7
  have hX8 := hX7.trans hx7
  clear b8 d8 e8 hS8 hT8 k0 k1 k2 k3
  go_wp2_with fail
  refine (implReadFrame_c s2 _ a0 a1 (hE.nx hX8)).mono ?_
  rintro e w8 ⟨rfl, hx8⟩
  rw [← Hs2.out, (frA_back HQ.out).1, (frA_back HQ.out).2, Hs2.out]
  rw [show vF (q0, q1, q2, q3) = .agg #[.int .i64 q0, .int .i64 q1, .int .i64 q2, .int .i64 q3] from rfl]
  have ba := b9.nx hx8
  have da := d9.nx hx8
  have ea := e9.nx hx8
  have hSa := hS9.nx hx8
  have hTa := hT9.nx hx8
  have hX9 := hX8.trans hx8
  clear b9 d9 e9 hS9 hT9
  obtain ⟨k0, k1, k2, k3⟩ := ba.d4
  obtain ⟨l0, l1, l2, l3⟩ := ea.d4
  obtain ⟨j0, j1, j2, j3⟩ := da.d4
  have hltb := ba.lt
  have hlte := ea.lt
  have hltd := da.lt
  have hs27 : s2.size = 27 := by rw [← Hs2.out]; exact frameS_size HQ.out
  go_wp2_with fail
  have bb := ba.alloc (.cells #[.int .i64 q0, .int .i64 q1, .int .i64 q2, .int .i64 q3] 28)
  have db := da.alloc (.cells #[.int .i64 q0, .int .i64 q1, .int .i64 q2, .int .i64 q3] 28)
  have hSb := hSa.nx ((Nx.refl w8).alloc (.cells #[.int .i64 q0, .int .i64 q1, .int .i64 q2, .int .i64 q3] 28))
  have hTb := hTa.nx ((Nx.refl w8).alloc (.cells #[.int .i64 q0, .int .i64 q1, .int .i64 q2, .int .i64 q3] 28))
  have hXa := hX9.alloc (.cells #[.int .i64 q0, .int .i64 q1, .int .i64 q2, .int .i64 q3] 28)
  have gb := Box.new w8 28 #[.int .i64 q0, .int .i64 q1, .int .i64 q2, .int .i64 q3]
  clear ba da ea hSa hTa k0 k1 k2 k3 l0 l1 l2 l3 j0 j1 j2 j3 hltb hlte hltd
  generalize w8.alloc (.cells #[.int .i64 q0, .int .i64 q1, .int .i64 q2, .int .i64 q3] 28) = W8 at *
  refine (sameSeg_c f t m A3 A c3 c W8.heap.size cs _ hTb.row hSb.row (Nat.le_refl _) hl9).mono ?_
  rintro e w9 ⟨rfl, hx9⟩
  have bc := bb.nx hx9
  have dc := db.nx hx9
  have gc := gb.nx hx9
  have hSc := hSb.nx hx9
  have hXb := hXa.trans hx9
  clear bb db gb hSb hTb
  obtain ⟨k0, k1, k2, k3⟩ := bc.d4
  obtain ⟨j0, j1, j2, j3⟩ := dc.d4
  obtain ⟨l0, l1, l2, l3⟩ := gc.d4
  go_wp2_with fail
  refine (implSegOK_c f t m A c w9.heap.size cs _ hSc.row (Nat.le_refl _) hl9).mono ?_
  rintro e wa ⟨rfl, hxa⟩
  rw [HF.out]
  have dd := dc.nx hxa
  have hXc := hXb.trans hxa
  clear k0 k1 k2 k3 j0 j1 j2 j3 l0 l1 l2 l3 bc dc gc hSc
  obtain ⟨j0, j1, j2, j3⟩ := dd.d4
  go_wp2_with fail
  refine (implFrameOK_c q0 q1 q2 q3 _).mono ?_
  rintro e wb ⟨rfl, hxb⟩
  rw [HQ.out]
  have hXd := hXc.trans hxb
  clear j0 j1 j2 j3 dd
  go_wp2_with fail
  refine (at_c A2 n2 c2 0 24 w.heap.size ys2 _ (h2.below hXd (Nat.le_refl _)) hXd.size hb2 (by omega) (by omega) (by omega)).mono ?_
  rintro e wc ⟨k, rfl, hk, hxc⟩
  have hXe := hXd.trans hxc
  go_wp2_with fail
  have hk7 : k < s2.size := by omega
  have hk8 : (k : Int) < (s2.size : Int) := by omega
  have hk9 : (k : Int) ≤ (s2.size : Int) := by omega
  have hka : (k : Int) + 1 ≤ (s2.size : Int) := by omega
  have hkb : k + 1 ≤ s2.size := by omega
  have hkc : ((k : Int) + 1).toNat = k + 1 := by omega
  have hkd : IntKind.i64.wrap ((k : Int) + 1) = (k : Int) + 1 := IntWalk.i64_in _ (by omega)
  have hke : (0 : Int) ≤ (k : Int) + 1 := by omega
  have HK := Lib.hid hk
  have Hs27 := Lib.hid hs27
  obtain ⟨d, hd9, hdd⟩ : ∃ d, d ≤ 9 ∧ s2[k].toNat = 48 + d := by
    have := digit_at HQ.out hk (by rw [frameS_size HQ.out]; omega)
    obtain ⟨d, h1, h2⟩ := this
    refine ⟨d, h1, ?_⟩
    rw [← h2]
    have e := Hs2.out
    subst e
    rfl
  have hu1 : IntKind.u8.wrap ((s2[k].toNat : Int) - 48) = (d : Int) := by rw [hdd]; unfold IntKind.wrap; simp [IntKind.bits, IntKind.signed]; omega
  have hu2 : IntKind.u8.wrap ((d : Int) + 1) = (d : Int) + 1 := by unfold IntKind.wrap; simp [IntKind.bits, IntKind.signed]; omega
  have Hdd := Lib.hid hdd
  clear hs27 hdd hk
  refine wp_region_plan (.t 0 (.t 1 (.t 2 (.t 3 (.t 4 (.t 5 (.t 6 (.t 7 (.t 8 (.t 17 (.t 18 (.t 19 (.t 20 (.c 9 (.t 10 (.t 11 (.t 12 (.t 13 (.c 14 (.c 15 (.t 16 (.t 21 (.t 22 .e))))))))))))))))))))))) (fun _ => True) (by kernel_rfl) (by kernel_rfl) rfl (by kernel_rfl) (fun _ _ d _ _ h => by cases d <;> exact h) (by exact trivial) ?_
  simp only [psOf, List.getD_cons_zero, List.getD_cons_succ]
  repeat (first | (refine HP.take (v := ?_) (by rfl) ?_ ?_; rotate_left; (· (intro w hSw; (try dsimp only at hSw); go_simp; try with_reducible rfl)); (try simp only [Act.put, List.setIfInBounds_toArray, List.set_cons_zero, List.set_cons_succ])) | (refine HP.skip (by rfl) ?_; (try simp only [Act.put, List.setIfInBounds_toArray, List.set_cons_zero, List.set_cons_succ])))
  refine HP.call ?_
  refine CallStep.mk (by rfl) (fun K hK => ?_)
  go_simp
  refine (at_c A2 n2 c2 1 9 w.heap.size ys2 _ (h2.below hXe.drew (Nat.le_refl _)) hXe.drew.size hb2 (by omega) (by omega) (by omega)).mono ?_
  rintro e wd ⟨j, rfl, hj, hxd⟩
  have hXf := hXe.drew.trans hxd
  obtain ⟨z, Hz⟩ : ∃ z, Hid (d + 1 + j = z) := ⟨_, rfl⟩
  have hz9 : z ≤ 18 := by have := Hz.out; omega
  have hu3 : IntKind.u8.wrap (j : Int) = (j : Int) := by unfold IntKind.wrap; simp [IntKind.bits, IntKind.signed]; omega
  have hu4 : IntKind.u8.wrap ((d : Int) + 1 + (j : Int)) = (z : Int) := by rw [← Hz.out]; unfold IntKind.wrap; simp [IntKind.bits, IntKind.signed]; omega
  obtain ⟨r, Hr⟩ : ∃ r, Hid (z % 10 = r) := ⟨_, rfl⟩
  have hr9 : r ≤ 9 := by have := Hr.out; omega
  have hu5 : Int.tmod (z : Int) 10 = (r : Int) := by rw [← Hr.out, Int.tmod_eq_emod_of_nonneg (by omega)]; omega
  obtain ⟨y, Hy⟩ : ∃ y, Hid (48 + r = y) := ⟨_, rfl⟩
  have hy9 : y ≤ 57 := by have := Hy.out; omega
  have hu6 : IntKind.u8.wrap (48 + (r : Int)) = (y : Int) := by rw [← Hy.out]; unfold IntKind.wrap; simp [IntKind.bits, IntKind.signed]; omega
  go_wp2_with fail
  refine hK.out _ _ (by exact trivial) ?_
  clear hK K
  try simp only [Act.put, List.setIfInBounds_toArray, List.set_cons_zero, List.set_cons_succ]
  repeat (first | (refine HP.take (v := ?_) (by rfl) ?_ ?_; rotate_left; (· (intro w hSw; (try dsimp only at hSw); go_simp; try with_reducible rfl)); (try simp only [Act.put, List.setIfInBounds_toArray, List.set_cons_zero, List.set_cons_succ])) | (refine HP.skip (by rfl) ?_; (try simp only [Act.put, List.setIfInBounds_toArray, List.set_cons_zero, List.set_cons_succ])))
  refine HP.call ?_
  refine CallStep.mk (by rfl) (fun K hK => ?_)
  go_simp
  refine hK.out _ _ (by exact trivial) ?_
  clear hK K
  try simp only [Act.put, List.setIfInBounds_toArray, List.set_cons_zero, List.set_cons_succ]
  have hcv := cv_one (y : Int) (by omega) (by omega) (wd.alloc (.cells #[.int .u8 (y : Int)] 5)) wd.heap.size ((Box.new wd 5 #[.int .u8 (y : Int)]).cell 0)
  rw [Int.toNat_natCast] at hcv
  refine HP.call ?_
  refine CallStep.mk (by rfl) (fun K hK => ?_)
  go_simp
  refine hK.out _ _ (by exact trivial) ?_
  clear hK K
  try simp only [Act.put, List.setIfInBounds_toArray, List.set_cons_zero, List.set_cons_succ]
  obtain ⟨x1, Hx1⟩ : ∃ x, Hid (s2.extract 0 k = x) := ⟨_, rfl⟩
  obtain ⟨x2, Hx2⟩ : ∃ x, Hid (s2.extract (k + 1) s2.size = x) := ⟨_, rfl⟩
  obtain ⟨x3, Hx3⟩ : ∃ x : ByteArray, Hid (⟨#[UInt8.ofNat y]⟩ = x) := ⟨_, rfl⟩
  have hs1 : x1.size ≤ 27 := by rw [← Hx1.out, ByteArray.size_extract]; have := Hs27.out; omega
  have hs2 : x2.size ≤ 27 := by rw [← Hx2.out, ByteArray.size_extract]; have := Hs27.out; omega
  have hs3 : x3.size ≤ 1 := by rw [← Hx3.out]; exact Nat.le_refl _
  rw [Hx1.out, Hx2.out, Hx3.out]
  refine HP.take (v := .string (x1 ++ x3)) (by rfl) (fun w hSw => by go_simp; omega) ?_
  try simp only [Act.put, List.setIfInBounds_toArray, List.set_cons_zero, List.set_cons_succ]
  refine HP.take (v := .string (x1 ++ x3 ++ x2)) (by rfl) (fun w hSw => by go_simp; omega) ?_
  try simp only [Act.put, List.setIfInBounds_toArray, List.set_cons_zero, List.set_cons_succ]
  repeat (first | (refine HP.take (v := ?_) (by rfl) ?_ ?_; rotate_left; (· (intro w hSw; (try dsimp only at hSw); go_simp; try with_reducible rfl)); (try simp only [Act.put, List.setIfInBounds_toArray, List.set_cons_zero, List.set_cons_succ])) | (refine HP.skip (by rfl) ?_; (try simp only [Act.put, List.setIfInBounds_toArray, List.set_cons_zero, List.set_cons_succ])))
  refine HP.done ?_
  clear hcv
  have hXg := hXf.alloc (.cells #[.int .u8 (y : Int)] 5)
  generalize wd.alloc (.cells #[.int .u8 (y : Int)] 5) = We at *
  obtain ⟨bt, Hbt⟩ : ∃ x, Hid (x1 ++ x3 ++ x2 = x) := ⟨_, rfl⟩
  rw [Hbt.out]
  have HB := Lib.hid (show bend s2 k (UInt8.ofNat y) = bt by unfold bend; rw [Hx1.out, Hx2.out, Hx3.out, Hbt.out])
  have hr99 := Lib.hid hr9
  clear hs1 hs2 hs3 hu1 hu2 hu3 hu4 hu5 hu6 hd9 hz9 hr9 hy9
  obtain ⟨hb27, hbd, hbs⟩ : bt.size = 27 ∧ digL (bt.data.toList.take 24) = true ∧ bt.data.toList.drop 24 = sumD (numsS [q0, q1, q2, q3]) := by
    have := bend_facts HQ.out HK.out (digC_of hr99.out)
    rw [← HB.out, ← Hs2.out, ← Hy.out]; exact this
  have HE := Lib.hid (frC_bent hb27 hbd hbs)
  have HB27 := Lib.hid hb27
  have HBD := Lib.hid hbd
  have hb24 : 24 ≤ bt.size := by omega
  have hb24' : (24 : Int) ≤ (bt.size : Int) := by omega
  have hs24 : 24 ≤ s2.size := by have := Hs27.out; omega
  have hs24' : (24 : Int) ≤ (s2.size : Int) := by omega
  have hs1 : 1 ≤ s2.size := by omega
  have hs1' : (1 : Int) ≤ (s2.size : Int) := by omega
  have he24 : (bt.extract 0 24).size ≤ 24 := by rw [ByteArray.size_extract]; omega
  have he25 : (s2.extract 0 24).size ≤ 24 := by rw [ByteArray.size_extract]; omega
  obtain ⟨sa, HA⟩ : ∃ x, Hid (sumOfS (bt.extract 0 24) = x) := ⟨_, rfl⟩
  obtain ⟨sc, HC⟩ : ∃ x, Hid (sumOfS (s2.extract 0 24) = x) := ⟨_, rfl⟩
  have HSA := Lib.hid (show sumS (bodyOf bt) = sa by rw [body_27 hb27, ← HA.out]; unfold sumOfS; rw [if_pos (by omega)])
  have HSC := Lib.hid (show sumS (numsS [q0, q1, q2, q3]) = sc by rw [← body24 HQ.out, Hs2.out, ← HC.out]; unfold sumOfS; rw [if_pos (by omega)])
  obtain ⟨fb, HFB⟩ : ∃ x, Hid (frameB (vaT bt 24 0) (vaT bt 24 1) (vaT bt 24 2) (vaT bt 24 3) = x) := ⟨_, rfl⟩
  obtain ⟨ce, HCE⟩ : ∃ x, Hid (frC bt = x) := ⟨_, rfl⟩
  have HCE2 := Lib.hid (show ce = if sa = sc ∧ fb = true then 0 else 3 by rw [← HCE.out, HE.out, HSA.out, HSC.out, HFB.out])
  have HOD := Lib.hid (show frC (s2.extract 1 s2.size) = 3 from frC_odd (by rw [ByteArray.size_extract]; have := Hs27.out; omega) (by rw [ByteArray.size_extract]; have := Hs27.out; omega))
  clear hb27 hbd hbs
  go_wp2_with fail
  refine (implReadFrame_c bt _ a0 a1 (hE.nx hXg)).mono ?_
  rintro e w10 ⟨rfl, hx10⟩
  obtain ⟨⟨p0, p1, p2, p3⟩, Hp⟩ : ∃ p, Hid (frA bt = p) := ⟨_, rfl⟩
  rw [Hp.out, HCE.out]
  rw [show vF (p0, p1, p2, p3) = .agg #[.int .i64 p0, .int .i64 p1, .int .i64 p2, .int .i64 p3] from rfl]
  have hXh := (hXg.trans hx10).alloc (.cells #[.int .i64 p0, .int .i64 p1, .int .i64 p2, .int .i64 p3] 28)
  go_wp2_with fail
  generalize w10.alloc (.cells #[.int .i64 p0, .int .i64 p1, .int .i64 p2, .int .i64 p3] 28) = W10 at *
  refine (implReadFrame_c (s2.extract 1 s2.size) _ a0 a1 (hE.nx hXh)).mono ?_
  rintro e w11 ⟨rfl, hx11⟩
  obtain ⟨⟨g0, g1, g2, g3⟩, Hg⟩ : ∃ p, Hid (frA (s2.extract 1 s2.size) = p) := ⟨_, rfl⟩
  rw [Hg.out, HOD.out]
  rw [show vF (g0, g1, g2, g3) = .agg #[.int .i64 g0, .int .i64 g1, .int .i64 g2, .int .i64 g3] from rfl]
  have hXi := (hXh.trans hx11).alloc (.cells #[.int .i64 g0, .int .i64 g1, .int .i64 g2, .int .i64 g3] 28)
  go_wp2_with fail
  generalize w11.alloc (.cells #[.int .i64 g0, .int .i64 g1, .int .i64 g2, .int .i64 g3] 28) = W11 at *
  by_cases hac : sa = sc
  · subst hac
    cases fb
    · obtain rfl : ce = 3 := by have := HCE2.out; simpa using this
      refine wp_region_plan (.t 0 (.t 1 (.t 2 (.t 3 (.t 5 (.t 6 (.c 4 (.c 7 (.t 8 (.t 9 (.t 10 (.c 11 (.c 12 (.t 13 (.t 14 (.t 15 (.t 16 (.t 17 (.t 18 (.t 19 (.t 20 (.t 21 (.t 23 (.t 24 (.c 22 (.c 25 (.t 26 (.t 27 (.t 28 .e))))))))))))))))))))))))))))) (fun _ => True) (by kernel_rfl) (by kernel_rfl) rfl (by kernel_rfl) (fun _ _ d _ _ h => by cases d <;> exact h) (by exact trivial) ?_
      simp only [psOf, List.getD_cons_zero, List.getD_cons_succ]
      repeat (first | (refine HP.take (v := ?_) (by rfl) ?_ ?_; rotate_left; (· (intro w hSw; (try dsimp only at hSw); go_simp; try with_reducible rfl)); (try simp only [Act.put, List.setIfInBounds_toArray, List.set_cons_zero, List.set_cons_succ])) | (refine HP.skip (by rfl) ?_; (try simp only [Act.put, List.setIfInBounds_toArray, List.set_cons_zero, List.set_cons_succ])))
      refine HP.call ?_
      refine CallStep.mk (by rfl) (fun K hK => ?_)
      go_simp
      refine (implSumOf_c (bt.extract 0 24) _ (by unfold maxLen; omega)).mono ?_; rintro e w' ⟨rfl, rfl⟩; rw [HA.out]
      go_wp2_with fail
      refine hK.out _ _ (by exact trivial) ?_
      clear hK K
      try simp only [Act.put, List.setIfInBounds_toArray, List.set_cons_zero, List.set_cons_succ]
      refine HP.call ?_
      refine CallStep.mk (by rfl) (fun K hK => ?_)
      go_simp
      refine (implSumOf_c (s2.extract 0 24) _ (by unfold maxLen; omega)).mono ?_; rintro e w' ⟨rfl, rfl⟩; rw [HC.out]
      go_wp2_with fail
      refine hK.out _ _ (by exact trivial) ?_
      clear hK K
      try simp only [Act.put, List.setIfInBounds_toArray, List.set_cons_zero, List.set_cons_succ]
      repeat (first | (refine HP.take (v := ?_) (by rfl) ?_ ?_; rotate_left; (· (intro w hSw; (try dsimp only at hSw); go_simp; try with_reducible rfl)); (try simp only [Act.put, List.setIfInBounds_toArray, List.set_cons_zero, List.set_cons_succ])) | (refine HP.skip (by rfl) ?_; (try simp only [Act.put, List.setIfInBounds_toArray, List.set_cons_zero, List.set_cons_succ])))
      refine HP.call ?_
      refine CallStep.mk (by rfl) (fun K hK => ?_)
      go_simp
      refine (frameOf_c bt _ HB27.out HBD.out).mono ?_; rintro e wx ⟨rfl, hxx⟩; rw [show vF (vaT bt 24 0, vaT bt 24 1, vaT bt 24 2, vaT bt 24 3) = .agg #[.int .i64 (vaT bt 24 0 : Nat), .int .i64 (vaT bt 24 1 : Nat), .int .i64 (vaT bt 24 2 : Nat), .int .i64 (vaT bt 24 3 : Nat)] from rfl]
      go_wp2_with fail
      refine hK.out _ _ (by exact trivial) ?_
      clear hK K
      try simp only [Act.put, List.setIfInBounds_toArray, List.set_cons_zero, List.set_cons_succ]
      refine HP.call ?_
      refine CallStep.mk (by rfl) (fun K hK => ?_)
      go_simp
      refine (specFrameOK_c _ _ _ _ _).mono ?_; rintro e wy ⟨rfl, hyy⟩; rw [HFB.out]
      go_wp2_with fail
      refine hK.out _ _ (by exact trivial) ?_
      clear hK K
      try simp only [Act.put, List.setIfInBounds_toArray, List.set_cons_zero, List.set_cons_succ]
      repeat (first | (refine HP.take (v := ?_) (by rfl) ?_ ?_; rotate_left; (· (intro w hSw; (try dsimp only at hSw); go_simp; try with_reducible rfl)); (try simp only [Act.put, List.setIfInBounds_toArray, List.set_cons_zero, List.set_cons_succ])) | (refine HP.skip (by rfl) ?_; (try simp only [Act.put, List.setIfInBounds_toArray, List.set_cons_zero, List.set_cons_succ])))
      refine HP.call ?_
      refine CallStep.mk (by rfl) (fun K hK => ?_)
      go_simp
      refine (implSumOf_c (s2.extract 0 24) _ (by unfold maxLen; omega)).mono ?_; rintro e w' ⟨rfl, rfl⟩; rw [HC.out]
      go_wp2_with fail
      refine hK.out _ _ (by exact trivial) ?_
      clear hK K
      try simp only [Act.put, List.setIfInBounds_toArray, List.set_cons_zero, List.set_cons_succ]
      refine HP.call ?_
      refine CallStep.mk (by rfl) (fun K hK => ?_)
      go_simp
      refine (specSumOf_c (s2.extract 0 24) _ (by unfold maxLen; omega)).mono ?_; rintro e w' ⟨rfl, rfl⟩; rw [HC.out]
      go_wp2_with fail
      refine hK.out _ _ (by exact trivial) ?_
      clear hK K
      try simp only [Act.put, List.setIfInBounds_toArray, List.set_cons_zero, List.set_cons_succ]
      repeat (first | (refine HP.take (v := ?_) (by rfl) ?_ ?_; rotate_left; (· (intro w hSw; (try dsimp only at hSw); go_simp; try with_reducible rfl)); (try simp only [Act.put, List.setIfInBounds_toArray, List.set_cons_zero, List.set_cons_succ])) | (refine HP.skip (by rfl) ?_; (try simp only [Act.put, List.setIfInBounds_toArray, List.set_cons_zero, List.set_cons_succ])))
      refine HP.done ?_
      go_wp2
      go_ret
      exact ⟨rfl, (hXi.drew.trans hxx).trans hyy⟩
    · obtain rfl : ce = 0 := by have := HCE2.out; simpa using this
      refine wp_region_plan (.t 0 (.t 1 (.t 2 (.t 3 (.t 5 (.t 6 (.c 4 (.c 7 (.t 8 (.t 9 (.t 10 (.c 11 (.c 12 (.t 13 (.t 14 (.t 15 (.t 16 (.t 17 (.t 18 (.t 19 (.t 20 (.t 21 (.t 23 (.t 24 (.c 22 (.c 25 (.t 26 (.t 27 (.t 28 .e))))))))))))))))))))))))))))) (fun _ => True) (by kernel_rfl) (by kernel_rfl) rfl (by kernel_rfl) (fun _ _ d _ _ h => by cases d <;> exact h) (by exact trivial) ?_
      simp only [psOf, List.getD_cons_zero, List.getD_cons_succ]
      repeat (first | (refine HP.take (v := ?_) (by rfl) ?_ ?_; rotate_left; (· (intro w hSw; (try dsimp only at hSw); go_simp; try with_reducible rfl)); (try simp only [Act.put, List.setIfInBounds_toArray, List.set_cons_zero, List.set_cons_succ])) | (refine HP.skip (by rfl) ?_; (try simp only [Act.put, List.setIfInBounds_toArray, List.set_cons_zero, List.set_cons_succ])))
      refine HP.call ?_
      refine CallStep.mk (by rfl) (fun K hK => ?_)
      go_simp
      refine (implSumOf_c (bt.extract 0 24) _ (by unfold maxLen; omega)).mono ?_; rintro e w' ⟨rfl, rfl⟩; rw [HA.out]
      go_wp2_with fail
      refine hK.out _ _ (by exact trivial) ?_
      clear hK K
      try simp only [Act.put, List.setIfInBounds_toArray, List.set_cons_zero, List.set_cons_succ]
      refine HP.call ?_
      refine CallStep.mk (by rfl) (fun K hK => ?_)
      go_simp
      refine (implSumOf_c (s2.extract 0 24) _ (by unfold maxLen; omega)).mono ?_; rintro e w' ⟨rfl, rfl⟩; rw [HC.out]
      go_wp2_with fail
      refine hK.out _ _ (by exact trivial) ?_
      clear hK K
      try simp only [Act.put, List.setIfInBounds_toArray, List.set_cons_zero, List.set_cons_succ]
      repeat (first | (refine HP.take (v := ?_) (by rfl) ?_ ?_; rotate_left; (· (intro w hSw; (try dsimp only at hSw); go_simp; try with_reducible rfl)); (try simp only [Act.put, List.setIfInBounds_toArray, List.set_cons_zero, List.set_cons_succ])) | (refine HP.skip (by rfl) ?_; (try simp only [Act.put, List.setIfInBounds_toArray, List.set_cons_zero, List.set_cons_succ])))
      refine HP.call ?_
      refine CallStep.mk (by rfl) (fun K hK => ?_)
      go_simp
      refine (frameOf_c bt _ HB27.out HBD.out).mono ?_; rintro e wx ⟨rfl, hxx⟩; rw [show vF (vaT bt 24 0, vaT bt 24 1, vaT bt 24 2, vaT bt 24 3) = .agg #[.int .i64 (vaT bt 24 0 : Nat), .int .i64 (vaT bt 24 1 : Nat), .int .i64 (vaT bt 24 2 : Nat), .int .i64 (vaT bt 24 3 : Nat)] from rfl]
      go_wp2_with fail
      refine hK.out _ _ (by exact trivial) ?_
      clear hK K
      try simp only [Act.put, List.setIfInBounds_toArray, List.set_cons_zero, List.set_cons_succ]
      refine HP.call ?_
      refine CallStep.mk (by rfl) (fun K hK => ?_)
      go_simp
      refine (specFrameOK_c _ _ _ _ _).mono ?_; rintro e wy ⟨rfl, hyy⟩; rw [HFB.out]
      go_wp2_with fail
      refine hK.out _ _ (by exact trivial) ?_
      clear hK K
      try simp only [Act.put, List.setIfInBounds_toArray, List.set_cons_zero, List.set_cons_succ]
      repeat (first | (refine HP.take (v := ?_) (by rfl) ?_ ?_; rotate_left; (· (intro w hSw; (try dsimp only at hSw); go_simp; try with_reducible rfl)); (try simp only [Act.put, List.setIfInBounds_toArray, List.set_cons_zero, List.set_cons_succ])) | (refine HP.skip (by rfl) ?_; (try simp only [Act.put, List.setIfInBounds_toArray, List.set_cons_zero, List.set_cons_succ])))
      refine HP.call ?_
      refine CallStep.mk (by rfl) (fun K hK => ?_)
      go_simp
      refine (implSumOf_c (s2.extract 0 24) _ (by unfold maxLen; omega)).mono ?_; rintro e w' ⟨rfl, rfl⟩; rw [HC.out]
      go_wp2_with fail
      refine hK.out _ _ (by exact trivial) ?_
      clear hK K
      try simp only [Act.put, List.setIfInBounds_toArray, List.set_cons_zero, List.set_cons_succ]
      refine HP.call ?_
      refine CallStep.mk (by rfl) (fun K hK => ?_)
      go_simp
      refine (specSumOf_c (s2.extract 0 24) _ (by unfold maxLen; omega)).mono ?_; rintro e w' ⟨rfl, rfl⟩; rw [HC.out]
      go_wp2_with fail
      refine hK.out _ _ (by exact trivial) ?_
      clear hK K
      try simp only [Act.put, List.setIfInBounds_toArray, List.set_cons_zero, List.set_cons_succ]
      repeat (first | (refine HP.take (v := ?_) (by rfl) ?_ ?_; rotate_left; (· (intro w hSw; (try dsimp only at hSw); go_simp; try with_reducible rfl)); (try simp only [Act.put, List.setIfInBounds_toArray, List.set_cons_zero, List.set_cons_succ])) | (refine HP.skip (by rfl) ?_; (try simp only [Act.put, List.setIfInBounds_toArray, List.set_cons_zero, List.set_cons_succ])))
      refine HP.done ?_
      go_wp2
      go_ret
      exact ⟨rfl, (hXi.drew.trans hxx).trans hyy⟩
  · have hne : (sa == sc) = false := by simp [hac]
    obtain rfl : ce = 3 := by have := HCE2.out; simpa [hac] using this
    refine wp_region_plan (.t 0 (.t 1 (.t 2 (.t 3 (.t 5 (.t 6 (.c 4 (.c 7 (.t 8 (.t 9 (.t 10 (.t 11 (.t 12 (.t 13 (.t 14 (.t 15 (.t 16 (.t 17 (.t 18 (.t 19 (.t 20 (.t 21 (.t 23 (.t 24 (.c 22 (.c 25 (.t 26 (.t 27 (.t 28 .e))))))))))))))))))))))))))))) (fun _ => True) (by kernel_rfl) (by kernel_rfl) rfl (by kernel_rfl) (fun _ _ d _ _ h => by cases d <;> exact h) (by exact trivial) ?_
    simp only [psOf, List.getD_cons_zero, List.getD_cons_succ]
    repeat (first | (refine HP.take (v := ?_) (by rfl) ?_ ?_; rotate_left; (· (intro w hSw; (try dsimp only at hSw); go_simp; try with_reducible rfl)); (try simp only [Act.put, List.setIfInBounds_toArray, List.set_cons_zero, List.set_cons_succ])) | (refine HP.skip (by rfl) ?_; (try simp only [Act.put, List.setIfInBounds_toArray, List.set_cons_zero, List.set_cons_succ])))
    refine HP.call ?_
    refine CallStep.mk (by rfl) (fun K hK => ?_)
    go_simp
    refine (implSumOf_c (bt.extract 0 24) _ (by unfold maxLen; omega)).mono ?_; rintro e w' ⟨rfl, rfl⟩; rw [HA.out]
    go_wp2_with fail
    refine hK.out _ _ (by exact trivial) ?_
    clear hK K
    try simp only [Act.put, List.setIfInBounds_toArray, List.set_cons_zero, List.set_cons_succ]
    refine HP.call ?_
    refine CallStep.mk (by rfl) (fun K hK => ?_)
    go_simp
    refine (implSumOf_c (s2.extract 0 24) _ (by unfold maxLen; omega)).mono ?_; rintro e w' ⟨rfl, rfl⟩; rw [HC.out]
    go_wp2_with fail
    refine hK.out _ _ (by exact trivial) ?_
    clear hK K
    try simp only [Act.put, List.setIfInBounds_toArray, List.set_cons_zero, List.set_cons_succ]
    repeat (first | (refine HP.take (v := ?_) (by rfl) ?_ ?_; rotate_left; (· (intro w hSw; (try dsimp only at hSw); go_simp; try with_reducible rfl)); (try simp only [Act.put, List.setIfInBounds_toArray, List.set_cons_zero, List.set_cons_succ])) | (refine HP.skip (by rfl) ?_; (try simp only [Act.put, List.setIfInBounds_toArray, List.set_cons_zero, List.set_cons_succ])))
    refine HP.call ?_
    refine CallStep.mk (by rfl) (fun K hK => ?_)
    go_simp
    refine (implSumOf_c (s2.extract 0 24) _ (by unfold maxLen; omega)).mono ?_; rintro e w' ⟨rfl, rfl⟩; rw [HC.out]
    go_wp2_with fail
    refine hK.out _ _ (by exact trivial) ?_
    clear hK K
    try simp only [Act.put, List.setIfInBounds_toArray, List.set_cons_zero, List.set_cons_succ]
    refine HP.call ?_
    refine CallStep.mk (by rfl) (fun K hK => ?_)
    go_simp
    refine (specSumOf_c (s2.extract 0 24) _ (by unfold maxLen; omega)).mono ?_; rintro e w' ⟨rfl, rfl⟩; rw [HC.out]
    go_wp2_with fail
    refine hK.out _ _ (by exact trivial) ?_
    clear hK K
    try simp only [Act.put, List.setIfInBounds_toArray, List.set_cons_zero, List.set_cons_succ]
    repeat (first | (refine HP.take (v := ?_) (by rfl) ?_ ?_; rotate_left; (· (intro w hSw; (try dsimp only at hSw); go_simp; try with_reducible rfl)); (try simp only [Act.put, List.setIfInBounds_toArray, List.set_cons_zero, List.set_cons_succ])) | (refine HP.skip (by rfl) ?_; (try simp only [Act.put, List.setIfInBounds_toArray, List.set_cons_zero, List.set_cons_succ])))
    refine HP.done ?_
    go_wp2
    go_ret
    exact ⟨rfl, hXi.drew⟩
end Go.Proofs.YtiocbppldpogpaaDoor
