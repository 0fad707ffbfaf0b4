/-
  Contracts of the model: what is retained, contents that are alike.
  Conditions: what is read can be read, and holds at most 1048576 elements of a kind.
-/
import Derived.Test.YtihpadelfpogmaaVix
import Derived.Test.YtihpadelfpogmaaFws
namespace Go.Proofs.Ytihpadelfpogmaa
set_option linter.unusedVariables false
set_option maxRecDepth 100000
open Go.RowKit

set_option maxHeartbeats 2000000 in
theorem l05Retained_c (V : Vl) (B : Nat) (w : World) (h : Vlt w B V) (hB : B ≤ w.heap.size) (hn : VlN V 1048576) :
    Calls Try.prog 82 #[V.v] w (RetIc w (retL V.b V.gs)) := by
  obtain ⟨g, b, p, t, A, c, xs, A2, c2, ms, A3, c3, gs, A4, c4, im⟩ := V
  obtain ⟨h, h2, h3, h4⟩ := h
  obtain ⟨hn, hn2, hn3, hn4, hn5⟩ := hn
  simp only [Vl.v, Vl.cells] at *
  obtain ⟨n, Hn⟩ : ∃ n, Hid (gs.length = n) := ⟨_, rfl⟩
  have HS := Lib.hid (fun k (hk : k < n) => retTo_succ (b := b) (gs := gs) (k := k) (by rw [Hn.out]; exact hk))
  have HL := Lib.hid (fun k (hk : k ≤ n) => retTo_len (b := b) (gs := gs) (k := k) (by rw [Hn.out]; exact hk))
  have HA := Lib.hid (retTo_all b gs)
  have h3' : ∀ k, k < n → _ := fun k hk w' B' hw hB' => ((h3.below (w' := w') (B' := B') hw hB').row.at4 (k := k) (by rw [Hn.out]; exact hk))
  rw [Hn.out] at hn3 HA ⊢
  have b0 := (Box.new w 36 #[.int .i64 g, .int .i64 b, .int .i64 p, .int .i64 t, .slice A xs.length c, .slice A2 ms.length c2, .slice A3 n c3, .slice A4 im.length c4]).alloc (.cells #[.int .i64 b] 3)
  have hx0 := (Nx.refl w).alloc (.cells #[.int .i64 g, .int .i64 b, .int .i64 p, .int .i64 t, .slice A xs.length c, .slice A2 ms.length c2, .slice A3 n c3, .slice A4 im.length c4] 36)
  have hrow0 := RowI.one (w.alloc (.cells #[.int .i64 g, .int .i64 b, .int .i64 p, .int .i64 t, .slice A xs.length c, .slice A2 ms.length c2, .slice A3 n c3, .slice A4 im.length c4] 36)) (B := w.heap.size + 1) (by simp) b
  rw [World.size_alloc] at hrow0
  have hx1 := hx0.alloc (.cells #[.int .i64 b] 3)
  have hz1 : w.heap.size + 1 ≤ ((w.alloc (.cells #[.int .i64 g, .int .i64 b, .int .i64 p, .int .i64 t, .slice A xs.length c, .slice A2 ms.length c2, .slice A3 n c3, .slice A4 im.length c4] 36)).alloc (.cells #[.int .i64 b] 3)).heap.size := by simp
  clear hx0
  go_enter Try.func82, Try.ntmps82
  go_wp2_with fail
  generalize (w.alloc (.cells #[.int .i64 g, .int .i64 b, .int .i64 p, .int .i64 t, .slice A xs.length c, .slice A2 ms.length c2, .slice A3 n c3, .slice A4 im.length c4] 36)).alloc (.cells #[.int .i64 b] 3) = W at *
  go_loopw [3, 4] (fun v i wr => ∃ (k : Nat), k ≤ n ∧ i = .int .i64 k ∧ (∃ u, u = v ∧ RowI wr (w.heap.size + 1) u (retTo b gs k)) ∧ Nx w wr ∧ Box wr w.heap.size 36 #[.int .i64 g, .int .i64 b, .int .i64 p, .int .i64 t, .slice A xs.length c, .slice A2 ms.length c2, .slice A3 n c3, .slice A4 im.length c4] ∧ w.heap.size + 1 ≤ wr.heap.size) (fun _ i _ => n - (intOf i).toNat)
  case atStart => exact ⟨0, by omega, rfl, ⟨_, rfl, hrow0⟩, hx1, b0, hz1⟩
  case round =>
    obtain ⟨k, hk, rfl, ⟨u, rfl, hrow⟩, hnx, hb, hsz⟩ := hrel
    clear hrow0 hx1 hz1 b0
    obtain ⟨_, _, _, _, _, _, c6, _⟩ := hb.e8
    by_cases hlt : k < n
    case neg =>
      obtain rfl : k = n := by omega
      rw [HA.out] at hrow
      obtain ⟨A', c', rfl, hc', hS⟩ := hrow.slc
      go_wp2
      go_ret
      exact ⟨A', c', rfl, hc', hS.low (by omega), hnx⟩
    obtain ⟨bb, off, rfl, hbb, p0, p1, p2, p3⟩ := h3' k hlt _ _ hnx hB
    have HS' := Lib.hid (HS.out k hlt)
    have HLk := Lib.hid (HL.out k (by omega))
    obtain ⟨q, Hq⟩ : ∃ q, Hid ((gs.getD k sgZ).t = q) := ⟨_, rfl⟩
    rw [Hq.out] at p1 HS'
    clear p0 p2 p3
    have hx2 := (Nx.refl wr).alloc (.cells #[.int .i64 q] 3)
    have hbx := Box.new wr 3 #[.int .i64 q]
    have hrow1 := hrow.nx hx2
    have hnx2 := hnx.trans hx2
    have hb2 := hb.nx hx2
    have hsz2 := Nat.le_trans hsz hx2.size
    have HR := Lib.hid hrow1
    have HB := Lib.hid hbx
    clear hrow hrow1 hbx
    go_wp2_with (at_builtin; refine wpList_addI rfl _ _ rfl (w.heap.size + 1) wr.heap.size _ (retTo b gs k) q rfl rfl HR.out HB.out (by have := HLk.out; omega) hsz2 ?_)
    intro A' k' w' hr' hg'
    have hnx3 := hg'.nx w hnx2 (by omega)
    have hb3 := hg'.box _ _ _ (by decide) hb2
    have hsz3 := Nat.le_trans hsz2 hg'.size
    go_wp2
    go_roundw
    case rel => exact ⟨k + 1, by omega, by go_num, ⟨_, rfl, by rw [HS'.out]; exact hr'⟩, hnx3, hb3, hsz3⟩
    case measure => simp [intOf]; omega

set_option maxHeartbeats 1000000 in
theorem l05Is_c (V : Vl) (x : Int) (B : Nat) (w : World) (h : Vlt w B V) (hB : B ≤ w.heap.size) (hn : VlN V 1048576) (hN : V.gs.length ≤ 4096) :
    Calls Try.prog 73 #[V.v, .int .i64 x] w fun e w' => e = .returned (.bool (isRet V.b V.gs x)) ∧ Nx w w' := by
  have hR := l05Retained_c V B
  obtain ⟨g, b, p, t, A, c, xs, A2, c2, ms, A3, c3, gs, A4, c4, im⟩ := V
  simp only [Vl.v, Vl.cells] at *
  have hx0 := (Nx.refl w).alloc (.cells #[.int .i64 g, .int .i64 b, .int .i64 p, .int .i64 t, .slice A xs.length c, .slice A2 ms.length c2, .slice A3 gs.length c3, .slice A4 im.length c4] 36)
  have HR := Lib.hid hR
  clear hR
  go_enter Try.func73, Try.ntmps73
  go_wp2_with fail
  generalize w.alloc (.cells #[.int .i64 g, .int .i64 b, .int .i64 p, .int .i64 t, .slice A xs.length c, .slice A2 ms.length c2, .slice A3 gs.length c3, .slice A4 im.length c4] 36) = W at *
  refine (HR.out W (h.below hx0 hB) (Nat.le_trans hB hx0.size) hn).mono ?_
  rintro e w1 ⟨A9, c9, rfl, _, hS, hx1⟩
  have hl := retL_len b gs
  have HI := Lib.hid (isRet_hasB (b := b) (gs := gs) (x := x) hl)
  obtain ⟨m, Hm⟩ : ∃ m, Hid ((retL b gs).length = m) := ⟨_, rfl⟩
  have Hl := Lib.hid hl
  clear hl
  rw [Hm.out] at HI ⊢
  go_wp2_with fail
  refine (l04In_c A9 m c9 _ (retL b gs) x _ hS.row (by rw [Hm.out]; exact Nat.le_refl _) (by rw [Hl.out]; omega)).mono ?_
  rintro e w2 ⟨rfl, rfl⟩
  rw [HI.out]
  go_wp2
  go_ret
  exact ⟨rfl, hx0.trans hx1⟩

set_option maxHeartbeats 1000000 in
theorem l05Same_c (A A2 : Option Addr) (c c2 B : Nat) (xs ys : List Int) (w : World) (h : Ins w B A xs) (h2 : Ins w B A2 ys) (hB : B ≤ w.heap.size) (hl : xs.length = 8) (hl2 : ys.length = 8) :
    Calls Try.prog 63 #[.slice A 8 c, .slice A2 8 c2] w fun e w' => e = .returned (.bool (decide (xs = ys))) ∧ Nx w w' := by
  have Hl := Lib.hid hl
  have Hl2 := Lib.hid hl2
  clear hl hl2
  go_enter Try.func63, Try.ntmps63
  go_wp2
  go_loopw [5] (fun i wr => ∃ k : Nat, k ≤ 8 ∧ i = .int .i64 k ∧ (∀ j, j < k → xs.getD j 0 = ys.getD j 0) ∧ Nx w wr) (fun i _ => 8 - (intOf i).toNat)
  case atStart => exact ⟨0, Nat.zero_le _, rfl, fun j hj => absurd hj (by omega), Nx.refl _⟩
  case round =>
    obtain ⟨k, hk, rfl, hto, hnx⟩ := hrel
    by_cases hlt : k < 8
    · obtain ⟨b, off, rfl, hb, hc⟩ := (h.below hnx hB).at_ (k := k) (by rw [Hl.out]; exact hlt)
      obtain ⟨b2, off2, rfl, hb2, hc2⟩ := (h2.below hnx hB).at_ (k := k) (by rw [Hl2.out]; exact hlt)
      have HK := Lib.hid (fun (he : xs.getD k 0 = ys.getD k 0) (j : Nat) (hj : j < k + 1) => if hh : j < k then hto j hh else by obtain rfl : j = k := (by omega); exact he)
      have HNo := Lib.hid (fun (he : xs.getD k 0 ≠ ys.getD k 0) => decide_eq_false (fun hh : xs = ys => he (by rw [hh])))
      clear hto
      obtain ⟨y, Hy⟩ : ∃ y, Hid (xs.getD k 0 = y) := ⟨_, rfl⟩
      obtain ⟨z, Hz⟩ : ∃ z, Hid (ys.getD k 0 = z) := ⟨_, rfl⟩
      rw [Hy.out] at hc
      rw [Hz.out] at hc2
      rw [Hy.out, Hz.out] at HK HNo
      have hk1 : (k : Int) < 8 := by omega
      have hdk : decide (k < 8) = true := decide_eq_true hlt
      go_wp2_with fail
      go_still_tail 8, (by kernel_rfl)
      have hnx1 : Nx w wr.drew := Below.drew hnx
      by_cases he : y = z
      · have hd : (y != z) = false := by simp [he]
        have HT := Lib.hid (HK.out he)
        clear he HK HNo
        try change wpList _ _ _ _ _ wr.drew
        go_wp2
        go_roundw
        case rel => exact ⟨k + 1, by omega, by go_num, HT.out, hnx1⟩
        case measure => simp [intOf]; omega
      · have hd : (y != z) = true := by simp [he]
        have HT := Lib.hid (HNo.out he)
        clear he HK HNo
        try change wpList _ _ _ _ _ wr.drew
        go_wp2
        go_ret
        exact ⟨ret_bool HT.out.symm, hnx1⟩
    · obtain rfl : k = 8 := by omega
      have HT := Lib.hid (decide_eq_true (ext8 Hl.out Hl2.out hto))
      go_wp2
      go_ret
      exact ⟨ret_bool HT.out.symm, hnx⟩
set_option maxHeartbeats 1000000 in
theorem l05Old_c (A2 : Option Addr) (c2 B : Nat) (xs : List Int) (s : SgR) (w : World) (h : Ins w B A2 xs) (hg : Chs w B s.A s.cs) (hB : B ≤ w.heap.size) (hok : chsB s.cs = true) (h8 : xs.length = 8) :
    Calls Try.prog 75 #[.slice A2 8 c2, .agg #[.int .i64 s.f, .int .i64 s.t, .int .i64 s.m, .slice s.A s.cs.length s.c]] w fun e w' => e = .returned (.bool (oldB xs s)) ∧ Nx w w' := by
  obtain ⟨f, t, m, A, c, cs⟩ := s
  simp only at *
  have HO : Hid (oldB xs ⟨f, t, m, A, c, cs⟩ = decide (app pO xs cs = xs)) := Lib.hid rfl
  rw [HO.out]
  have hx0 := (Nx.refl w).alloc (.cells #[.int .i64 f, .int .i64 t, .int .i64 m, .slice A cs.length c] 54)
  have H8 := Lib.hid h8
  clear h8
  go_enter Try.func75, Try.ntmps75
  go_wp2_with fail
  generalize w.alloc (.cells #[.int .i64 f, .int .i64 t, .int .i64 m, .slice A cs.length c] 54) = W at *
  have hbk := l03Backward_c A2 c2 B xs f t m A c cs W (h.below hx0 hB) (hg.below hx0 hB) (Nat.le_trans hB hx0.size) hok H8.out
  rw [H8.out] at hbk
  refine hbk.mono ?_
  rintro e w1 ⟨A9, c9, rfl, hS, hx1⟩
  have hla : (app pO xs cs).length = 8 := by rw [app_len, H8.out]
  have hX := hx0.trans hx1
  have hrow := hS.row
  clear hbk hS
  obtain ⟨ys, Hys⟩ : ∃ ys, Hid (app pO xs cs = ys) := ⟨_, rfl⟩
  rw [Hys.out] at hla hrow ⊢
  rw [hla]
  have Hla := Lib.hid hla
  clear hla
  go_wp2_with fail
  refine (l05Same_c A9 A2 c9 c2 _ ys xs _ hrow ((h.below hX hB).more (Nat.le_trans hB hX.size)) (Nat.le_refl _) Hla.out H8.out).mono ?_
  rintro e w2 ⟨rfl, hx2⟩
  go_wp2
  go_ret
  exact ⟨ret_bool (by rw [Hys.out]), hX.trans hx2⟩
end Go.Proofs.Ytihpadelfpogmaa
