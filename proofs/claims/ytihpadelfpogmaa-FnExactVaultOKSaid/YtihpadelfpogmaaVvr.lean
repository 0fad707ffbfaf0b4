/-
  The program's view of a vault: what is retained, where a position stands, the places.
  Conditions: what is read can be read, and holds at most 1048576 elements of a kind.
-/
import Derived.Test.YtihpadelfpogmaaVvw
namespace Go.Proofs.Ytihpadelfpogmaa
set_option linter.unusedVariables false
set_option maxRecDepth 100000
open Go.RowKit

set_option maxHeartbeats 2000000 in
theorem retained_c (V : Vl) (B : Nat) (w : World) (h : Sgs w B V.A3 V.gs) (hB : B ≤ w.heap.size) (hn : V.gs.length ≤ 1048576) :
    Calls Try.prog 83 #[V.w] w (RetIc w (retL V.b V.gs)) := by
  obtain ⟨g, b, p, t, A, c, xs, A2, c2, ms, A3, c3, gs, A4, c4, im⟩ := V
  have h3 := h
  have hn3 := hn
  clear h hn
  simp only [Vl.w, Vl.wcells] at *
  obtain ⟨n, Hn⟩ : ∃ n, Hid (gs.length = n) := ⟨_, rfl⟩
  have HS := Lib.hid (fun k (hk : k < n) => retTo_succ (b := b) (gs := gs) (k := k) (by rw [Hn.out]; exact hk))
  have HL := Lib.hid (fun k (hk : k ≤ n) => retTo_len (b := b) (gs := gs) (k := k) (by rw [Hn.out]; exact hk))
  have HA := Lib.hid (retTo_all b gs)
  have h3' : ∀ k, k < n → _ := fun k hk w' B' hw hB' => ((h3.below (w' := w') (B' := B') hw hB').row.at4 (k := k) (by rw [Hn.out]; exact hk))
  rw [Hn.out] at hn3 HA ⊢
  have b0 := (Box.new w 101 #[.int .i64 g, .int .i64 b, .int .i64 p, .int .i64 t, .slice A xs.length c, .slice A2 ms.length c2, .slice A3 n c3, inAt im 0, inAt im 1, inAt im 2, inAt im 3, inAt im 4, inAt im 5, inAt im 6, inAt im 7]).alloc (.cells #[.int .i64 b] 3)
  have hx0 := (Nx.refl w).alloc (.cells #[.int .i64 g, .int .i64 b, .int .i64 p, .int .i64 t, .slice A xs.length c, .slice A2 ms.length c2, .slice A3 n c3, inAt im 0, inAt im 1, inAt im 2, inAt im 3, inAt im 4, inAt im 5, inAt im 6, inAt im 7] 101)
  have hrow0 := RowI.one (w.alloc (.cells #[.int .i64 g, .int .i64 b, .int .i64 p, .int .i64 t, .slice A xs.length c, .slice A2 ms.length c2, .slice A3 n c3, inAt im 0, inAt im 1, inAt im 2, inAt im 3, inAt im 4, inAt im 5, inAt im 6, inAt im 7] 101)) (B := w.heap.size + 1) (by simp) b
  rw [World.size_alloc] at hrow0
  have hx1 := hx0.alloc (.cells #[.int .i64 b] 3)
  have hz1 : w.heap.size + 1 ≤ ((w.alloc (.cells #[.int .i64 g, .int .i64 b, .int .i64 p, .int .i64 t, .slice A xs.length c, .slice A2 ms.length c2, .slice A3 n c3, inAt im 0, inAt im 1, inAt im 2, inAt im 3, inAt im 4, inAt im 5, inAt im 6, inAt im 7] 101)).alloc (.cells #[.int .i64 b] 3)).heap.size := by simp
  clear hx0 h3
  go_enter Try.func83, Try.ntmps83
  go_wp2_with fail
  generalize ((w.alloc (.cells #[.int .i64 g, .int .i64 b, .int .i64 p, .int .i64 t, .slice A xs.length c, .slice A2 ms.length c2, .slice A3 n c3, inAt im 0, inAt im 1, inAt im 2, inAt im 3, inAt im 4, inAt im 5, inAt im 6, inAt im 7] 101)).alloc (.cells #[.int .i64 b] 3)) = W at *
  obtain ⟨_, _, _, _, _, _, y6, _, _, _, _, _, _, _, _⟩ := b0.e15
  go_loopw [3, 13] (fun v i wr => ∃ (k : Nat), k ≤ n ∧ i = .int .i64 k ∧ (∃ u, u = v ∧ RowI wr (w.heap.size + 1) u (retTo b gs k)) ∧ Nx w wr ∧ w.heap.size + 1 ≤ wr.heap.size) (fun _ i _ => n - (intOf i).toNat)
  case atStart => exact ⟨0, by omega, rfl, ⟨_, rfl, hrow0⟩, hx1, hz1⟩
  case round =>
    obtain ⟨k, hk, rfl, ⟨u, rfl, hrow⟩, hnx, hsz⟩ := hrel
    clear hrow0 hx1 hz1 b0 y6
    by_cases hlt : k < n
    case neg =>
      obtain rfl : n = k := by omega
      rw [HA.out] at hrow
      obtain ⟨A', c', rfl, hc', hS⟩ := hrow.slc
      go_wp2
      go_ret
      exact ⟨A', c', rfl, hc', hS.low (by omega), hnx⟩
    obtain ⟨bb, off, rfl, hbb, p0, p1, p2, p3⟩ := h3' k hlt _ _ hnx hB
    have HS' := Lib.hid (HS.out k hlt)
    have HLk := Lib.hid (HL.out k (by omega))
    obtain ⟨⟨f, t9, m, Ac, cc, cs⟩, Hs⟩ : ∃ s, Hid (gs.getD k sgZ = s) := ⟨_, rfl⟩
    rw [Hs.out] at p0 p1 p2 p3 HS'
    simp only at p0 p1 p2 p3 HS'
    have hxa := (Nx.refl wr).alloc (.cells #[.int .i64 f, .int .i64 t9, .int .i64 m, .slice Ac cs.length cc] 54)
    have hx2 := hxa.alloc (.cells #[.int .i64 t9] 3)
    have hbx := Box.new (wr.alloc (.cells #[.int .i64 f, .int .i64 t9, .int .i64 m, .slice Ac cs.length cc] 54)) 3 #[.int .i64 t9]
    rw [World.size_alloc] at hbx
    have hrow1 := hrow.nx hx2
    have hnx2 := hnx.trans hx2
    have hsz2 := Nat.le_trans hsz hx2.size
    have HR := Lib.hid hrow1
    have HB := Lib.hid hbx
    clear hrow hrow1 hbx hxa
    go_wp2_with (at_builtin; refine wpList_addI rfl _ _ rfl (w.heap.size + 1) (wr.heap.size + 1) _ (retTo b gs k) t9 rfl rfl HR.out HB.out (by have := HLk.out; omega) hsz2 ?_)
    intro A' k' w' hr' hg'
    have hnx3 := hg'.nx w hnx2 (by omega)
    have hsz3 := Nat.le_trans hsz2 hg'.size
    go_wp2
    go_roundw
    case rel => exact ⟨k + 1, by omega, by go_num, ⟨_, rfl, by rw [HS'.out]; exact hr'⟩, hnx3, hsz3⟩
    case measure => simp [intOf]; omega

set_option maxHeartbeats 1000000 in
theorem segsAhead_c (V : Vl) (x : Int) (B : Nat) (w : World) (h : Sgs w B V.A3 V.gs) (hB : B ≤ w.heap.size) (hN : V.gs.length ≤ 4096) (hr : isRet V.b V.gs x = true) :
    Calls Try.prog 137 #[V.w, .int .i64 x] w fun e w' => e = .returned (.int .i64 (ahd V.b V.gs x : Int)) ∧ Nx w w' := by
  have hR := retained_c V B
  obtain ⟨g, b, p, t, A, c, xs, A2, c2, ms, A3, c3, gs, A4, c4, im⟩ := V
  have h3 := h
  simp only [Vl.w, Vl.wcells] at *
  have hx0 := (Nx.refl w).alloc (.cells #[.int .i64 g, .int .i64 b, .int .i64 p, .int .i64 t, .slice A xs.length c, .slice A2 ms.length c2, .slice A3 gs.length c3, inAt im 0, inAt im 1, inAt im 2, inAt im 3, inAt im 4, inAt im 5, inAt im 6, inAt im 7] 101)
  have HR := Lib.hid hR
  clear hR h
  go_enter Try.func137, Try.ntmps137
  go_wp2_with fail
  generalize w.alloc (.cells #[.int .i64 g, .int .i64 b, .int .i64 p, .int .i64 t, .slice A xs.length c, .slice A2 ms.length c2, .slice A3 gs.length c3, inAt im 0, inAt im 1, inAt im 2, inAt im 3, inAt im 4, inAt im 5, inAt im 6, inAt im 7] 101) = W at *
  refine (HR.out W (h3.below hx0 hB) (Nat.le_trans hB hx0.size) (by omega)).mono ?_
  rintro e w1 ⟨A9, c9, rfl, _, hS, hx1⟩
  have hl := retL_len b gs
  have HI := Lib.hid (idxI_ahd (b := b) (gs := gs) (x := x) hr)
  obtain ⟨m, Hm⟩ : ∃ m, Hid ((retL b gs).length = m) := ⟨_, rfl⟩
  have Hl := Lib.hid hl
  clear hl
  rw [Hm.out] at ⊢
  go_wp2_with fail
  refine (indexI_c A9 m c9 _ (retL b gs) x _ hS.row Hm.out.symm (by rw [Hl.out]; omega)).mono ?_
  rintro e w2 ⟨rfl, rfl⟩
  rw [HI.out]
  go_wp2
  go_ret
  exact ⟨rfl, hx0.trans hx1⟩

set_option maxHeartbeats 1000000 in
theorem isRetained_c (V : Vl) (x : Int) (B : Nat) (w : World) (h : Sgs w B V.A3 V.gs) (hB : B ≤ w.heap.size) (hN : V.gs.length ≤ 4096) :
    Calls Try.prog 86 #[V.w, .int .i64 x] w fun e w' => e = .returned (.bool (isRet V.b V.gs x)) ∧ Nx w w' := by
  have hR := retained_c V B
  obtain ⟨g, b, p, t, A, c, xs, A2, c2, ms, A3, c3, gs, A4, c4, im⟩ := V
  have h3 := h
  simp only [Vl.w, Vl.wcells] at *
  have hx0 := (Nx.refl w).alloc (.cells #[.int .i64 g, .int .i64 b, .int .i64 p, .int .i64 t, .slice A xs.length c, .slice A2 ms.length c2, .slice A3 gs.length c3, inAt im 0, inAt im 1, inAt im 2, inAt im 3, inAt im 4, inAt im 5, inAt im 6, inAt im 7] 101)
  have HR := Lib.hid hR
  clear hR h
  go_enter Try.func86, Try.ntmps86
  go_wp2_with fail
  generalize w.alloc (.cells #[.int .i64 g, .int .i64 b, .int .i64 p, .int .i64 t, .slice A xs.length c, .slice A2 ms.length c2, .slice A3 gs.length c3, inAt im 0, inAt im 1, inAt im 2, inAt im 3, inAt im 4, inAt im 5, inAt im 6, inAt im 7] 101) = W at *
  refine (HR.out W (h3.below hx0 hB) (Nat.le_trans hB hx0.size) (by omega)).mono ?_
  rintro e w1 ⟨A9, c9, rfl, _, hS, hx1⟩
  have hl := retL_len b gs
  have HI0 := Lib.hid (isRet_hasB (b := b) (gs := gs) (x := x) hl)
  have HI := HI0
  obtain ⟨m, Hm⟩ : ∃ m, Hid ((retL b gs).length = m) := ⟨_, rfl⟩
  have Hl := Lib.hid hl
  clear hl
  rw [Hm.out] at HI ⊢
  go_wp2_with fail
  refine (contains_c A9 m c9 _ (retL b gs) x _ hS.row (by rw [Hm.out]; exact Nat.le_refl _) (by rw [Hl.out]; omega)).mono ?_
  rintro e w2 ⟨rfl, rfl⟩
  rw [HI.out]
  go_wp2
  go_ret
  exact ⟨rfl, hx0.trans hx1⟩

set_option maxHeartbeats 4000000 in
theorem hasPlaces_c (V : Vl) (B : Nat) (w : World) (h : Sgs w B V.A3 V.gs) (hm : Mks w B V.A2 V.ms) (hB : B ≤ w.heap.size) (hN : V.gs.length ≤ 4096) (hr : V.ms.length ≤ 1048576) :
    Calls Try.prog 132 #[V.w] w fun e w' => e = .returned (.bool (plcB V.b V.p V.t V.gs V.ms)) ∧ Nx w w' := by
  have hIs := isRetained_c V
  obtain ⟨g, b, p, t, A, c, xs, A2, c2, ms, A3, c3, gs, A4, c4, im⟩ := V
  simp only [Vl.w, Vl.wcells] at *
  have HIs := Lib.hid (fun (x : Int) (w' : World) (hx : Nx w w') => hIs x B w' (h.below hx hB) (Nat.le_trans hB hx.size) hN)
  have HMk := Lib.hid (fun (k : Nat) (hk : k < ms.length) (w' : World) (hx : Nx w w') => (hm.below hx hB).at_ hk)
  obtain ⟨r, Hr⟩ : ∃ r, Hid (ms.length = r) := ⟨_, rfl⟩
  rw [Hr.out] at HIs HMk hr ⊢
  have b0 := Box.new w 101 #[.int .i64 g, .int .i64 b, .int .i64 p, .int .i64 t, .slice A xs.length c, .slice A2 r c2, .slice A3 gs.length c3, inAt im 0, inAt im 1, inAt im 2, inAt im 3, inAt im 4, inAt im 5, inAt im 6, inAt im 7]
  have hx0 := (Nx.refl w).alloc (.cells #[.int .i64 g, .int .i64 b, .int .i64 p, .int .i64 t, .slice A xs.length c, .slice A2 r c2, .slice A3 gs.length c3, inAt im 0, inAt im 1, inAt im 2, inAt im 3, inAt im 4, inAt im 5, inAt im 6, inAt im 7] 101)
  clear hIs h hm
  go_enter Try.func132, Try.ntmps132
  go_wp2_with fail
  generalize w.alloc (.cells #[.int .i64 g, .int .i64 b, .int .i64 p, .int .i64 t, .slice A xs.length c, .slice A2 r c2, .slice A3 gs.length c3, inAt im 0, inAt im 1, inAt im 2, inAt im 3, inAt im 4, inAt im 5, inAt im 6, inAt im 7] 101) = W at *
  go_loopw [9] (fun i wr => ∃ k : Nat, k ≤ r ∧ i = .int .i64 k ∧ MksTo b gs ms k ∧ Nx w wr ∧ Box wr w.heap.size 101 #[.int .i64 g, .int .i64 b, .int .i64 p, .int .i64 t, .slice A xs.length c, .slice A2 r c2, .slice A3 gs.length c3, inAt im 0, inAt im 1, inAt im 2, inAt im 3, inAt im 4, inAt im 5, inAt im 6, inAt im 7]) (fun i _ => r - (intOf i).toNat)
  case atStart => exact ⟨0, Nat.zero_le _, rfl, MksTo.zero _ _ _, hx0, b0⟩
  case round =>
  obtain ⟨k, hk, rfl, hto, hnx, hb⟩ := hrel
  clear hx0 b0
  by_cases hlt : k < r
  · obtain ⟨bm, om, rfl, hbm, k0, k1⟩ := HMk.out k hlt _ hnx
    have HT := Lib.hid (fun hh => hto.succ hh)
    have HF := Lib.hid (fun hh => mksR_no (b := b) (gs := gs) (ms := ms) (k := k) (by rw [Hr.out]; exact hlt) hh)
    obtain ⟨⟨q0, q1⟩, Hm⟩ : ∃ m, Hid (ms.getD k mrZ = m) := ⟨_, rfl⟩
    rw [Hm.out] at k0 k1 HT HF
    simp only at k0 k1 HT HF
    have bq := Box.new wr 87 #[.string q0, .int .i64 q1]
    have hxq := (Nx.refl wr).alloc (.cells #[.string q0, .int .i64 q1] 87)
    have hba := hb.nx hxq
    have hnxa := hnx.trans hxq
    obtain ⟨y0, y1, y2, y3, y4, y5, y6, y7, y8, y9, y10, y11, y12, y13, y14⟩ := hba.e15
    have z1 := bq.c1
    clear hto hb
    go_wp2_with fail
    generalize wr.alloc (.cells #[.string q0, .int .i64 q1] 87) = wa at *
    refine (HIs.out q1 _ hnxa).mono ?_
    rintro e w9 ⟨rfl, hx9⟩
    have hb9 := hba.nx hx9
    have hnx9 := hnxa.trans hx9
    clear y0 y1 y2 y3 y4 y5 y6 y7 y8 y9 y10 y11 y12 y13 y14 z1 k0 k1
    cases hq : isRet b gs q1 with
    | false =>
      have HR := Lib.hid (show plcB b p t gs ms = false by unfold plcB; rw [HF.out hq]; rfl)
      clear hq HT HF
      go_wp2
      go_ret
      exact ⟨ret_bool HR.out.symm, hnx9⟩
    | true =>
      have HT' := Lib.hid (HT.out hq)
      clear hq HT HF
      go_wp2
      go_roundw
      case rel => exact ⟨k + 1, by omega, by go_num, HT'.out, hnx9, hb9⟩
      case measure => simp [intOf]; omega
  obtain rfl : r = k := by omega
  have HM := Lib.hid (show mksR b gs ms = true from MksTo.all (by rw [Hr.out]; exact hto))
  clear hto hlt hk
  obtain ⟨y0, y1, y2, y3, y4, y5, y6, y7, y8, y9, y10, y11, y12, y13, y14⟩ := hb.e15
  go_wp2_with fail
  clear y0 y1 y2 y3 y4 y5 y6 y7 y8 y9 y10 y11 y12 y13 y14
  refine (HIs.out p _ hnx).mono ?_
  rintro e w5 ⟨rfl, hk⟩
  have b5 := hb.nx hk
  have hx := hnx.trans hk
  clear hk hb hnx
  cases h5 : isRet b gs p with
  | false =>
    have HR := Lib.hid (show plcB b p t gs ms = false by unfold plcB; rw [h5]; simp)
    clear h5
    go_wp2
    go_ret
    exact ⟨ret_bool HR.out.symm, hx⟩
  | true =>
  have H5 := Lib.hid h5
  clear h5
  obtain ⟨y0, y1, y2, y3, y4, y5, y6, y7, y8, y9, y10, y11, y12, y13, y14⟩ := b5.e15
  go_wp2_with fail
  clear y0 y1 y2 y3 y4 y5 y6 y7 y8 y9 y10 y11 y12 y13 y14
  refine (HIs.out t _ hx).mono ?_
  rintro e w6 ⟨rfl, hk⟩
  have HR := Lib.hid (show plcB b p t gs ms = isRet b gs t by unfold plcB; rw [HM.out, H5.out]; rfl)
  have hx6 := hx.trans hk
  obtain ⟨z, Hz⟩ : ∃ z, Hid (isRet b gs t = z) := ⟨_, rfl⟩
  rw [Hz.out] at HR ⊢
  cases z <;> (go_wp2; go_ret; exact ⟨ret_bool HR.out.symm, hx6⟩)
end Go.Proofs.Ytihpadelfpogmaa
