/-
  Texts of the proof, in their order.
  Conditions: those of each.
-/
import Derived.Test.YtieoiailjjnnoaaGreatDoorMt10
import Derived.ChangeKeysEq
namespace Go.Proofs.YtieoiailjjnnoaaGreatDoor
set_option linter.unusedVariables false
set_option maxRecDepth 100000
set_option maxHeartbeats 16000000
open Go.RowKit
theorem retained_c (V : Vl) (B : Nat) (w : World) (h : Sgs w B V.A3 V.gs) (hB : B ≤ w.heap.size) (hn : V.gs.length ≤ 1048576) :
 Calls Tryz.prog 147 #[V.w] w (RetIc w (retL V.b V.gs)) := by
 obtain ⟨g, b, p, t, A, c, xs, A2, c2, ms, A3, c3, gs, A4, c4, im⟩ := V
 have h3 := h
 have hn3 := hn
 clear h hn
 simp only [Vl.w, Vl.wcells] at *
 obtain ⟨n, Hn⟩ : ∃ n, Hid (gs.length = n) := ⟨_, rfl⟩
 have HS := qh (fun k (hk : k < n) => retTo_succ (b := b) (gs := gs) (k := k) (by rw [Hn.out]; exact hk))
 have HL := qh (fun k (hk : k ≤ n) => retTo_len (b := b) (gs := gs) (k := k) (by rw [Hn.out]; exact hk))
 have HA := qh (retTo_all b gs)
 have h3' : ∀ k, k < n → _ := fun k hk w' B' hw hB' => ((h3.below (w' := w') (B' := B') hw hB').row.at4 (k := k) (by rw [Hn.out]; exact hk))
 rw [Hn.out] at hn3 HA ⊢
 have b0 := (Box.new w 107 #[ii g, ii b, ii p, ii t, .slice A xs.length c, .slice A2 ms.length c2, .slice A3 n c3, inAt im 0, inAt im 1, inAt im 2, inAt im 3, inAt im 4, inAt im 5, inAt im 6, inAt im 7]).alloc (.cells #[ii b] 3)
 have hx0 := (Nx.refl w).alloc (.cells #[ii g, ii b, ii p, ii t, .slice A xs.length c, .slice A2 ms.length c2, .slice A3 n c3, inAt im 0, inAt im 1, inAt im 2, inAt im 3, inAt im 4, inAt im 5, inAt im 6, inAt im 7] 107)
 have hrow0 := RowI.one (w.alloc (.cells #[ii g, ii b, ii p, ii t, .slice A xs.length c, .slice A2 ms.length c2, .slice A3 n c3, inAt im 0, inAt im 1, inAt im 2, inAt im 3, inAt im 4, inAt im 5, inAt im 6, inAt im 7] 107)) (B := w.heap.size + 1) (by simp) b
 rw [World.size_alloc] at hrow0
 have hx1 := hx0.alloc (.cells #[ii b] 3)
 have hz1 : w.heap.size + 1 ≤ ((w.alloc (.cells #[ii g, ii b, ii p, ii t, .slice A xs.length c, .slice A2 ms.length c2, .slice A3 n c3, inAt im 0, inAt im 1, inAt im 2, inAt im 3, inAt im 4, inAt im 5, inAt im 6, inAt im 7] 107)).alloc (.cells #[ii b] 3)).heap.size := by simp
 clear hx0 h3
 go_enter Tryz.func147, Tryz.ntmps147
 go_wp2_with fail
 generalize ((w.alloc (.cells #[ii g, ii b, ii p, ii t, .slice A xs.length c, .slice A2 ms.length c2, .slice A3 n c3, inAt im 0, inAt im 1, inAt im 2, inAt im 3, inAt im 4, inAt im 5, inAt im 6, inAt im 7] 107)).alloc (.cells #[ii b] 3)) = W at *
 obtain ⟨_, _, _, _, _, _, y6, _, _, _, _, _, _, _, _⟩ := b0.e15
 go_loopw [3, 13] (fun v i wr => ∃ (k : Nat), k ≤ n ∧ i = ii k ∧ (∃ u, u = v ∧ RowI wr (w.heap.size + 1) u (retTo b gs k)) ∧ Nx w wr ∧ w.heap.size + 1 ≤ wr.heap.size) (fun _ i _ => n - (intOf i).toNat)
 case atStart => exact ⟨0, by omega, rfl, ⟨_, rfl, hrow0⟩, hx1, hz1⟩
 case round =>
  obtain ⟨k, hk, rfl, ⟨u, rfl, hrow⟩, hnx, hsz⟩ := hrel
  clear hrow0 hx1 hz1 b0 y6
  by_cases hlt : k < n
  case neg =>
   obtain rfl : n = k := by omega
   rw [HA.out] at hrow
   obtain ⟨A', c', rfl, hc', hS⟩ := hrow.slc
   go_wp2
   go_ret
   exact ⟨A', c', rfl, hc', hS.low (by omega), hnx⟩
  obtain ⟨bb, off, rfl, hbb, p0, p1, p2, p3⟩ := h3' k hlt _ _ hnx hB
  have HS' := qh (HS.out k hlt)
  have HLk := qh (HL.out k (by omega))
  obtain ⟨⟨f, t9, m, Ac, cc, cs⟩, Hs⟩ : ∃ s, Hid (gs.getD k sgZ = s) := ⟨_, rfl⟩
  rw [Hs.out] at p0 p1 p2 p3 HS'
  simp only at p0 p1 p2 p3 HS'
  have hxa := (Nx.refl wr).alloc (.cells #[ii f, ii t9, ii m, .slice Ac cs.length cc] 122)
  have hx2 := hxa.alloc (.cells #[ii t9] 3)
  have hbx := Box.new (wr.alloc (.cells #[ii f, ii t9, ii m, .slice Ac cs.length cc] 122)) 3 #[ii t9]
  rw [World.size_alloc] at hbx
  have hrow1 := hrow.nx hx2
  have hnx2 := hnx.trans hx2
  have hsz2 := ntr hsz hx2.size
  have HR := qh hrow1
  have HB := qh hbx
  clear hrow hrow1 hbx hxa
  go_wp2_with (at_builtin; refine wpList_addI rfl _ _ rfl (w.heap.size + 1) (wr.heap.size + 1) _ (retTo b gs k) t9 rfl rfl HR.out HB.out (by have := HLk.out; omega) hsz2 ?_)
  intro A' k' w' hr' hg'
  have hnx3 := hg'.nx w hnx2 (by omega)
  have hsz3 := ntr hsz2 hg'.size
  go_wp2
  go_roundw
  case rel => exact ⟨k + 1, by omega, by go_num, ⟨_, rfl, by rw [HS'.out]; exact hr'⟩, hnx3, hsz3⟩
  case measure => simp [intOf]; omega
theorem segsAhead_c (V : Vl) (x : Int) (B : Nat) (w : World) (h : Sgs w B V.A3 V.gs) (hB : B ≤ w.heap.size) (hN : V.gs.length ≤ 4096) (hr : isRet V.b V.gs x = true) :
 Calls Tryz.prog 149 #[V.w, ii x] w fun e w' => e = .returned (ii (ahd V.b V.gs x : Int)) ∧ Nx w w' := by
 have hR := retained_c V B
 obtain ⟨g, b, p, t, A, c, xs, A2, c2, ms, A3, c3, gs, A4, c4, im⟩ := V
 have h3 := h
 simp only [Vl.w, Vl.wcells] at *
 have hx0 := (Nx.refl w).alloc (.cells #[ii g, ii b, ii p, ii t, .slice A xs.length c, .slice A2 ms.length c2, .slice A3 gs.length c3, inAt im 0, inAt im 1, inAt im 2, inAt im 3, inAt im 4, inAt im 5, inAt im 6, inAt im 7] 107)
 have HR := qh hR
 clear hR h
 go_enter Tryz.func149, Tryz.ntmps149
 go_wp2_with fail
 generalize w.alloc (.cells #[ii g, ii b, ii p, ii t, .slice A xs.length c, .slice A2 ms.length c2, .slice A3 gs.length c3, inAt im 0, inAt im 1, inAt im 2, inAt im 3, inAt im 4, inAt im 5, inAt im 6, inAt im 7] 107) = W at *
 refine (HR.out W (h3.below hx0 hB) (ntr hB hx0.size) (by omega)).mono ?_
 rintro e w1 ⟨A9, c9, rfl, _, hS, hx1⟩
 have hl := retL_len b gs
 have HI := qh (idxI_ahd (b := b) (gs := gs) (x := x) hr)
 obtain ⟨m, Hm⟩ : ∃ m, Hid ((retL b gs).length = m) := ⟨_, rfl⟩
 have Hl := qh hl
 clear hl
 rw [Hm.out] at ⊢
 go_wp2_with fail
 refine (indexI_c A9 m c9 _ (retL b gs) x _ hS.row Hm.out.symm (by rw [Hl.out]; omega)).mono ?_
 rintro e w2 ⟨rfl, rfl⟩
 rw [HI.out]
 go_wp2
 go_ret
 exact ⟨rfl, hx0.trans hx1⟩
theorem isRetained_c (V : Vl) (x : Int) (B : Nat) (w : World) (h : Sgs w B V.A3 V.gs) (hB : B ≤ w.heap.size) (hN : V.gs.length ≤ 4096) :
 Calls Tryz.prog 70 #[V.w, ii x] w fun e w' => e = .returned (.bool (isRet V.b V.gs x)) ∧ Nx w w' := by
 have hR := retained_c V B
 obtain ⟨g, b, p, t, A, c, xs, A2, c2, ms, A3, c3, gs, A4, c4, im⟩ := V
 have h3 := h
 simp only [Vl.w, Vl.wcells] at *
 have hx0 := (Nx.refl w).alloc (.cells #[ii g, ii b, ii p, ii t, .slice A xs.length c, .slice A2 ms.length c2, .slice A3 gs.length c3, inAt im 0, inAt im 1, inAt im 2, inAt im 3, inAt im 4, inAt im 5, inAt im 6, inAt im 7] 107)
 have HR := qh hR
 clear hR h
 go_enter Tryz.func70, Tryz.ntmps70
 go_wp2_with fail
 generalize w.alloc (.cells #[ii g, ii b, ii p, ii t, .slice A xs.length c, .slice A2 ms.length c2, .slice A3 gs.length c3, inAt im 0, inAt im 1, inAt im 2, inAt im 3, inAt im 4, inAt im 5, inAt im 6, inAt im 7] 107) = W at *
 refine (HR.out W (h3.below hx0 hB) (ntr hB hx0.size) (by omega)).mono ?_
 rintro e w1 ⟨A9, c9, rfl, _, hS, hx1⟩
 have hl := retL_len b gs
 have HI0 := qh (isRet_hasB (b := b) (gs := gs) (x := x) hl)
 have HI := HI0
 obtain ⟨m, Hm⟩ : ∃ m, Hid ((retL b gs).length = m) := ⟨_, rfl⟩
 have Hl := qh hl
 clear hl
 rw [Hm.out] at HI ⊢
 go_wp2_with fail
 refine (contains_c A9 m c9 _ (retL b gs) x _ hS.row (by rw [Hm.out]; exact Nat.le_refl _) (by rw [Hl.out]; omega)).mono ?_
 rintro e w2 ⟨rfl, rfl⟩
 rw [HI.out]
 go_wp2
 go_ret
 exact ⟨rfl, hx0.trans hx1⟩
theorem hasPlaces_c (V : Vl) (B : Nat) (w : World) (h : Sgs w B V.A3 V.gs) (hm : Mks w B V.A2 V.ms) (hB : B ≤ w.heap.size) (hN : V.gs.length ≤ 4096) (hr : V.ms.length ≤ 1048576) :
 Calls Tryz.prog 143 #[V.w] w fun e w' => e = .returned (.bool (plcB V.b V.p V.t V.gs V.ms)) ∧ Nx w w' := by
 have hIs := isRetained_c V
 obtain ⟨g, b, p, t, A, c, xs, A2, c2, ms, A3, c3, gs, A4, c4, im⟩ := V
 simp only [Vl.w, Vl.wcells] at *
 have HIs := qh (fun (x : Int) (w' : World) (hx : Nx w w') => hIs x B w' (h.below hx hB) (ntr hB hx.size) hN)
 have HMk := qh (fun (k : Nat) (hk : k < ms.length) (w' : World) (hx : Nx w w') => (hm.below hx hB).at_ hk)
 obtain ⟨r, Hr⟩ : ∃ r, Hid (ms.length = r) := ⟨_, rfl⟩
 rw [Hr.out] at HIs HMk hr ⊢
 have b0 := Box.new w 107 #[ii g, ii b, ii p, ii t, .slice A xs.length c, .slice A2 r c2, .slice A3 gs.length c3, inAt im 0, inAt im 1, inAt im 2, inAt im 3, inAt im 4, inAt im 5, inAt im 6, inAt im 7]
 have hx0 := (Nx.refl w).alloc (.cells #[ii g, ii b, ii p, ii t, .slice A xs.length c, .slice A2 r c2, .slice A3 gs.length c3, inAt im 0, inAt im 1, inAt im 2, inAt im 3, inAt im 4, inAt im 5, inAt im 6, inAt im 7] 107)
 clear hIs h hm
 go_enter Tryz.func143, Tryz.ntmps143
 go_wp2_with fail
 generalize w.alloc (.cells #[ii g, ii b, ii p, ii t, .slice A xs.length c, .slice A2 r c2, .slice A3 gs.length c3, inAt im 0, inAt im 1, inAt im 2, inAt im 3, inAt im 4, inAt im 5, inAt im 6, inAt im 7] 107) = W at *
 go_loopw [9] (fun i wr => ∃ k : Nat, k ≤ r ∧ i = ii k ∧ MksTo b gs ms k ∧ Nx w wr ∧ Box wr w.heap.size 107 #[ii g, ii b, ii p, ii t, .slice A xs.length c, .slice A2 r c2, .slice A3 gs.length c3, inAt im 0, inAt im 1, inAt im 2, inAt im 3, inAt im 4, inAt im 5, inAt im 6, inAt im 7]) (fun i _ => r - (intOf i).toNat)
 case atStart => exact ⟨0, Nat.zero_le _, rfl, MksTo.zero _ _ _, hx0, b0⟩
 case round =>
 obtain ⟨k, hk, rfl, hto, hnx, hb⟩ := hrel
 clear hx0 b0
 by_cases hlt : k < r
 · obtain ⟨bm, om, rfl, hbm, k0, k1⟩ := HMk.out k hlt _ hnx
   have HT := qh (fun hh => hto.succ hh)
   have HF := qh (fun hh => mksR_no (b := b) (gs := gs) (ms := ms) (k := k) (by rw [Hr.out]; exact hlt) hh)
   obtain ⟨⟨q0, q1⟩, Hm⟩ : ∃ m, Hid (ms.getD k mrZ = m) := ⟨_, rfl⟩
   rw [Hm.out] at k0 k1 HT HF
   simp only at k0 k1 HT HF
   have bq := Box.new wr 136 #[.string q0, ii q1]
   have hxq := (Nx.refl wr).alloc (.cells #[.string q0, ii q1] 136)
   have hba := hb.nx hxq
   have hnxa := hnx.trans hxq
   obtain ⟨y0, y1, y2, y3, y4, y5, y6, y7, y8, y9, y10, y11, y12, y13, y14⟩ := hba.e15
   have z1 := bq.c1
   clear hto hb
   go_wp2_with fail
   generalize wr.alloc (.cells #[.string q0, ii q1] 136) = wa at *
   refine (HIs.out q1 _ hnxa).mono ?_
   rintro e w9 ⟨rfl, hx9⟩
   have hb9 := hba.nx hx9
   have hnx9 := hnxa.trans hx9
   clear y0 y1 y2 y3 y4 y5 y6 y7 y8 y9 y10 y11 y12 y13 y14 z1 k0 k1
   cases hq : isRet b gs q1 with
   | false =>
     have HR := qh (show plcB b p t gs ms = false by unfold plcB; rw [HF.out hq]; rfl)
     clear hq HT HF
     go_wp2
     go_ret
     exact ⟨ret_bool HR.out.symm, hnx9⟩
   | true =>
     have HT' := qh (HT.out hq)
     clear hq HT HF
     go_wp2
     go_roundw
     case rel => exact ⟨k + 1, by omega, by go_num, HT'.out, hnx9, hb9⟩
     case measure => simp [intOf]; omega
 obtain rfl : r = k := by omega
 have HM := qh (show mksR b gs ms = true from MksTo.all (by rw [Hr.out]; exact hto))
 clear hto hlt hk
 obtain ⟨y0, y1, y2, y3, y4, y5, y6, y7, y8, y9, y10, y11, y12, y13, y14⟩ := hb.e15
 go_wp2_with fail
 clear y0 y1 y2 y3 y4 y5 y6 y7 y8 y9 y10 y11 y12 y13 y14
 refine (HIs.out p _ hnx).mono ?_
 rintro e w5 ⟨rfl, hk⟩
 have b5 := hb.nx hk
 have hx := hnx.trans hk
 clear hk hb hnx
 cases h5 : isRet b gs p with
 | false =>
   have HR := qh (show plcB b p t gs ms = false by unfold plcB; rw [h5]; simp)
   clear h5
   go_wp2
   go_ret
   exact ⟨ret_bool HR.out.symm, hx⟩
 | true =>
 have H5 := qh h5
 clear h5
 obtain ⟨y0, y1, y2, y3, y4, y5, y6, y7, y8, y9, y10, y11, y12, y13, y14⟩ := b5.e15
 go_wp2_with fail
 clear y0 y1 y2 y3 y4 y5 y6 y7 y8 y9 y10 y11 y12 y13 y14
 refine (HIs.out t _ hx).mono ?_
 rintro e w6 ⟨rfl, hk⟩
 have HR := qh (show plcB b p t gs ms = isRet b gs t by unfold plcB; rw [HM.out, H5.out]; rfl)
 have hx6 := hx.trans hk
 obtain ⟨z, Hz⟩ : ∃ z, Hid (isRet b gs t = z) := ⟨_, rfl⟩
 rw [Hz.out] at HR ⊢
 cases z <;> (go_wp2; go_ret; exact ⟨ret_bool HR.out.symm, hx6⟩)
theorem cell_row_far (w : World) (g : Nat) (ds : Array Value) {p : Addr} (h : p.block ≠ g) : (w.setRow g ds).cell? p = w.cell? p := by
 unfold World.cell?
 rw [heap_setRow_ne w g ds h]
theorem stepDone_c (V : Vl) (B : Nat) (w : World) (h : Sgs w B V.A3 V.gs) (hB : B ≤ w.heap.size) (hl : Lead V.b V.gs) (h8 : V.im.length = 8) (hp : isRet V.b V.gs V.p = true) (hd : (V.p < V.t → ahd V.b V.gs V.p < V.gs.length) ∧ (V.t < V.p → 0 < ahd V.b V.gs V.p)) :
 Calls Tryz.prog 148 #[V.w] w fun e w' => e = .returned (.tuple #[vA (stp V.b V.p V.t V.gs V.im).1, ii ((stp V.b V.p V.t V.gs V.im).2 : Int)]) ∧ Nx w w' := by
 have hSA := segsAhead_c V V.p
 obtain ⟨g, b, p, t, A, c, xs, A2, c2, ms, A3, c3, gs, A4, c4, im⟩ := V
 simp only [Vl.w, Vl.wcells] at *
 obtain ⟨a, Ha⟩ : ∃ a, Hid (ahd b gs p = a) := ⟨_, rfl⟩
 have ha := ahd_at hp
 have HSA := qh (fun (w' : World) (hx : Nx w w') => hSA B w' (h.below hx hB) (ntr hB hx.size) hl.short hp)
 have Hstp : Hid (stp b p t gs im = if p < t then (app pN im (gs.getD a sgZ).cs, a + 1) else if t < p then (app pO im (gs.getD (a - 1) sgZ).cs, a - 1) else (im, a)) := qh (by rw [← Ha.out]; rfl)
 have hsh := hl.short
 rw [Ha.out] at ha hd HSA
 obtain ⟨n, Hn⟩ : ∃ n, Hid (gs.length = n) := ⟨_, rfl⟩
 have h3' : ∀ k, k < n → _ := fun k hk w' B' hw hB' => ((h.below (w' := w') (B' := B') hw hB').row.at4 (k := k) (by rw [Hn.out]; exact hk))
 have h3c : ∀ k, k < n → _ := fun k hk => h.chs k (by rw [Hn.out]; exact hk)
 have HOKs := qh (fun k (hk : k < n) => hl.ok k (by rw [Hn.out]; exact hk))
 have ha1 := ha.1
 have H8 := qh h8
 rw [Hn.out] at hd ha1 hsh HSA ⊢
 have b0 : Box ((w.alloc (.cells #[ii g, ii b, ii p, ii t, .slice A xs.length c, .slice A2 ms.length c2, .slice A3 n c3, inAt im 0, inAt im 1, inAt im 2, inAt im 3, inAt im 4, inAt im 5, inAt im 6, inAt im 7] 107)).alloc (.cells #[ii 0, ii 0, ii 0, ii 0, ii 0, ii 0, ii 0, ii 0] 105)) w.heap.size 107 #[ii g, ii b, ii p, ii t, .slice A xs.length c, .slice A2 ms.length c2, .slice A3 n c3, inAt im 0, inAt im 1, inAt im 2, inAt im 3, inAt im 4, inAt im 5, inAt im 6, inAt im 7] := (Box.new w _ _).alloc _
 have r0 : Box ((w.alloc (.cells #[ii g, ii b, ii p, ii t, .slice A xs.length c, .slice A2 ms.length c2, .slice A3 n c3, inAt im 0, inAt im 1, inAt im 2, inAt im 3, inAt im 4, inAt im 5, inAt im 6, inAt im 7] 107)).alloc (.cells #[ii 0, ii 0, ii 0, ii 0, ii 0, ii 0, ii 0, ii 0] 105)) (w.heap.size + 1) 105 #[ii 0, ii 0, ii 0, ii 0, ii 0, ii 0, ii 0, ii 0] := by have := Box.new (w.alloc (.cells #[ii g, ii b, ii p, ii t, .slice A xs.length c, .slice A2 ms.length c2, .slice A3 n c3, inAt im 0, inAt im 1, inAt im 2, inAt im 3, inAt im 4, inAt im 5, inAt im 6, inAt im 7] 107)) 105 #[ii 0, ii 0, ii 0, ii 0, ii 0, ii 0, ii 0, ii 0]; rwa [World.size_alloc] at this
 have hx0 := ((Nx.refl w).alloc (.cells #[ii g, ii b, ii p, ii t, .slice A xs.length c, .slice A2 ms.length c2, .slice A3 n c3, inAt im 0, inAt im 1, inAt im 2, inAt im 3, inAt im 4, inAt im 5, inAt im 6, inAt im 7] 107)).alloc (.cells #[ii 0, ii 0, ii 0, ii 0, ii 0, ii 0, ii 0, ii 0] 105)
 clear hl hp ha h h8 hSA
 go_enter Tryz.func148, Tryz.ntmps148
 go_wp2_with fail
 generalize ((w.alloc (.cells #[ii g, ii b, ii p, ii t, .slice A xs.length c, .slice A2 ms.length c2, .slice A3 n c3, inAt im 0, inAt im 1, inAt im 2, inAt im 3, inAt im 4, inAt im 5, inAt im 6, inAt im 7] 107)).alloc (.cells #[ii 0, ii 0, ii 0, ii 0, ii 0, ii 0, ii 0, ii 0] 105)) = W at *
 obtain ⟨gR, HgR⟩ : ∃ g, Hid (w.heap.size + 1 = g) := ⟨_, rfl⟩
 have hgR : w.heap.size ≤ gR := by have := HgR.out; omega
 have hneR : w.heap.size ≠ gR := by have := HgR.out; omega
 rw [HgR.out]
 rw [HgR.out] at r0
 refine (HSA.out _ hx0).mono ?_
 rintro e w1 ⟨rfl, hk⟩
 have b1 := b0.nx hk
 have r1 := r0.nx hk
 replace hx0 := hx0.trans hk
 clear b0 r0 hk
 obtain ⟨y0, y1, y2, y3, y4, y5, y6, y7, y8, y9, y10, y11, y12, y13, y14⟩ := b1.e15
 go_wp2_with fail
 clear y0 y1 y2 y3 y4 y5 y6 y7 y8 y9 y10 y11 y12 y13 y14
 refine (goesForward_c g b p t A A2 c c2 _ _ _).mono ?_
 rintro e wq ⟨rfl, hk⟩
 have bq := b1.nx hk
 have rq := r1.nx hk
 replace hx0 := hx0.trans hk
 clear b1 r1 hk
 by_cases hlt : p < t
 · have HSB := qh (show stp b p t gs im = (app pN im (gs.getD a sgZ).cs, a + 1) by rw [Hstp.out, if_pos hlt])
   have han := hd.1 hlt
   rw [decide_eq_true hlt]
   clear hd hlt
   obtain ⟨k, Hk⟩ : ∃ k, Hid (a = k) := ⟨_, rfl⟩
   have hkn : k < n := by have := Hk.out; omega
   have HOK := qh (HOKs.out k hkn)
   have hch := h3c k hkn
   obtain ⟨bb, off, rfl, hbb, p0, p1, p2, p3⟩ := h3' k hkn _ _ hx0 hB
   obtain ⟨⟨f, t9, m, Ac, cc, cs⟩, Hs⟩ : ∃ s, Hid (gs.getD k sgZ = s) := ⟨_, rfl⟩
   rw [Hs.out] at p0 p1 p2 p3 hch HOK
   simp only at p0 p1 p2 p3 hch HOK
   obtain ⟨ys, Hys⟩ : ∃ ys, Hid (app pN im cs = ys) := ⟨_, rfl⟩
   have hbd : Box wq.drew w.heap.size 107 #[ii g, ii b, ii p, ii t, .slice A xs.length c, .slice A2 ms.length c2, .slice (some ⟨bb, off, none⟩) n c3, inAt im 0, inAt im 1, inAt im 2, inAt im 3, inAt im 4, inAt im 5, inAt im 6, inAt im 7] := bq
   have rd := rq.nx (Nx.refl _).drew
   have hx2 := hx0.drew
   have hbw : bb < wq.drew.heap.size := Nat.lt_of_lt_of_le hbb (ntr hB hx2.size)
   have hneb : bb ≠ gR := by have := HgR.out; omega
   have hak : (a : Int) = (k : Int) := by have := Hk.out; omega
   rw [hak]
   have hkc : (k : Int) < (n : Int) := by omega
   have hk0 : (0 : Int) ≤ (k : Int) := by omega
   have hw1 : IntKind.i64.wrap ((k : Int) + 1) = (k : Int) + 1 := IntWalk.i64_in _ (by omega)
   clear hak
   go_wp2_with fail
   refine wp_planA (.t 0 (.t 1 (.t 2 (.t 3 (.t 4 (.t 5 (.t 6 (.t 8 (.t 9 (.c 7 (.c 10 (.t 11 .e)))))))))))) (fun w' => (w'.cell? ⟨w.heap.size, 0, none⟩ = some (ii g) ∧ w'.cell? ⟨w.heap.size, 1, none⟩ = some (ii b) ∧ w'.cell? ⟨w.heap.size, 2, none⟩ = some (ii p) ∧ w'.cell? ⟨w.heap.size, 3, none⟩ = some (ii t) ∧ w'.cell? ⟨w.heap.size, 4, none⟩ = some (.slice A xs.length c) ∧ w'.cell? ⟨w.heap.size, 5, none⟩ = some (.slice A2 ms.length c2) ∧ w'.cell? ⟨w.heap.size, 6, none⟩ = some (.slice (some ⟨bb, off, none⟩) n c3) ∧ w'.cell? ⟨w.heap.size, 7, none⟩ = some (inAt im 0) ∧ w'.cell? ⟨w.heap.size, 8, none⟩ = some (inAt im 1) ∧ w'.cell? ⟨w.heap.size, 9, none⟩ = some (inAt im 2) ∧ w'.cell? ⟨w.heap.size, 10, none⟩ = some (inAt im 3) ∧ w'.cell? ⟨w.heap.size, 11, none⟩ = some (inAt im 4) ∧ w'.cell? ⟨w.heap.size, 12, none⟩ = some (inAt im 5) ∧ w'.cell? ⟨w.heap.size, 13, none⟩ = some (inAt im 6) ∧ w'.cell? ⟨w.heap.size, 14, none⟩ = some (inAt im 7)) ∧ w'.cell? ⟨bb, off + k * 4, none⟩ = some (ii f) ∧ w'.cell? ⟨bb, off + k * 4 + 1, none⟩ = some (ii t9) ∧ w'.cell? ⟨bb, off + k * 4 + 2, none⟩ = some (ii m) ∧ w'.cell? ⟨bb, off + k * 4 + 3, none⟩ = some (.slice Ac cs.length cc)) (by exact ⟨hbd.e15, p0, p1, p2, p3⟩) ?_
   simp only [psOf, List.getD_cons_zero, List.getD_cons_succ]
   repeat ((first | refine HP.tk ?_ | refine HP.sk ?_); try simp only [Act.put, qqA, qqB, qqC])
   refine hPc fun K hK => ?_
   go_simp
   have hcl := valuesForward_c f t9 m Ac cc B cs im _ (hch.below hx2 hB) (ntr hB hx2.size) HOK.out H8.out; rw [Hys.out] at hcl; unfold vA at hcl; refine hcl.mono ?_; rintro e w2 ⟨rfl, hx3⟩; clear hcl; have hb2 := hbd.nx hx3; have r2 := rd.nx hx3; replace p0 := (hx3.cell (p := ⟨bb, off + k * 4, none⟩) hbw).trans p0; replace p1 := (hx3.cell (p := ⟨bb, off + k * 4 + 1, none⟩) hbw).trans p1; replace p2 := (hx3.cell (p := ⟨bb, off + k * 4 + 2, none⟩) hbw).trans p2; replace p3 := (hx3.cell (p := ⟨bb, off + k * 4 + 3, none⟩) hbw).trans p3; have hX3 := hx2.trans hx3
   go_wp2_with fail
   refine hK.out _ _ (by exact ⟨hb2.e15, p0, p1, p2, p3⟩) ?_
   clear hK K
   try simp only [Act.put, qqA, qqB, qqC]
   refine hPc fun K hK => ?_
   refine wp_store_row _ _ _ rfl gR #[inAt ys 0, inAt ys 1, inAt ys 2, inAt ys 3, inAt ys 4, inAt ys 5, inAt ys 6, inAt ys 7] rfl rfl 105 #[ii 0, ii 0, ii 0, ii 0, ii 0, ii 0, ii 0, ii 0] r2 (by kernel_rfl) rfl (by simp [Value.oneCell', inAt]) ?_
   refine hK.out _ _ (by exact ⟨(hb2.rowfar hneR #[inAt ys 0, inAt ys 1, inAt ys 2, inAt ys 3, inAt ys 4, inAt ys 5, inAt ys 6, inAt ys 7]).e15, ((cell_row_far w2 gR #[inAt ys 0, inAt ys 1, inAt ys 2, inAt ys 3, inAt ys 4, inAt ys 5, inAt ys 6, inAt ys 7] (p := ⟨bb, off + k * 4, none⟩) (by simp; omega)).trans p0), ((cell_row_far w2 gR #[inAt ys 0, inAt ys 1, inAt ys 2, inAt ys 3, inAt ys 4, inAt ys 5, inAt ys 6, inAt ys 7] (p := ⟨bb, off + k * 4 + 1, none⟩) (by simp; omega)).trans p1), ((cell_row_far w2 gR #[inAt ys 0, inAt ys 1, inAt ys 2, inAt ys 3, inAt ys 4, inAt ys 5, inAt ys 6, inAt ys 7] (p := ⟨bb, off + k * 4 + 2, none⟩) (by simp; omega)).trans p2), ((cell_row_far w2 gR #[inAt ys 0, inAt ys 1, inAt ys 2, inAt ys 3, inAt ys 4, inAt ys 5, inAt ys 6, inAt ys 7] (p := ⟨bb, off + k * 4 + 3, none⟩) (by simp; omega)).trans p3)⟩) ?_
   clear hK K
   try simp only [Act.put]
   repeat ((first | refine HP.tk ?_ | refine HP.sk ?_); try simp only [Act.put, qqA, qqB, qqC])
   refine HP.done ?_
   have q := r2.row #[inAt ys 0, inAt ys 1, inAt ys 2, inAt ys 3, inAt ys 4, inAt ys 5, inAt ys 6, inAt ys 7]
   have hnf := hX3.setRow hgR #[inAt ys 0, inAt ys 1, inAt ys 2, inAt ys 3, inAt ys 4, inAt ys 5, inAt ys 6, inAt ys 7]
   generalize w2.setRow gR #[inAt ys 0, inAt ys 1, inAt ys 2, inAt ys 3, inAt ys 4, inAt ys 5, inAt ys 6, inAt ys 7] = Wf at *
   obtain ⟨g0, g1, g2, g3, g4, g5, g6, g7⟩ := q.e8
   go_wp2
   exact bodyPost_ret (v := .tuple #[.agg #[inAt ys 0, inAt ys 1, inAt ys 2, inAt ys 3, inAt ys 4, inAt ys 5, inAt ys 6, inAt ys 7], ii ((k : Int) + 1)]) (by simp [results, Tryz.results148, go_sem, g0, g1, g2, g3, g4, g5, g6, g7]) rfl ⟨by rw [HSB.out, Hk.out, Hs.out]; show _ = Ending.returned (.tuple #[vA (app _ im cs), _]); rw [Hys.out]; rfl, hnf⟩
 rw [decide_eq_false hlt]
 have Hlt := qh hlt
 clear hlt
 obtain ⟨y0, y1, y2, y3, y4, y5, y6, y7, y8, y9, y10, y11, y12, y13, y14⟩ := bq.e15
 go_wp2_with fail
 clear y0 y1 y2 y3 y4 y5 y6 y7 y8 y9 y10 y11 y12 y13 y14
 refine (goesBack_c g b p t A A2 c c2 _ _ _).mono ?_
 rintro e wz ⟨rfl, hk⟩
 replace bq := bq.nx hk
 replace rq := rq.nx hk
 replace hx0 := hx0.trans hk
 clear hk
 by_cases hgt : t < p
 · have HSB := qh (show stp b p t gs im = (app pO im (gs.getD (a - 1) sgZ).cs, a - 1) by rw [Hstp.out, if_neg (by have := Hlt.out; omega), if_pos hgt])
   have han := hd.2 hgt
   rw [decide_eq_true hgt]
   clear hd hgt
   obtain ⟨k, Hk⟩ : ∃ k, Hid (a - 1 = k) := ⟨_, rfl⟩
   have hkn : k < n := by have := Hk.out; omega
   have HOK := qh (HOKs.out k hkn)
   have hch := h3c k hkn
   obtain ⟨bb, off, rfl, hbb, p0, p1, p2, p3⟩ := h3' k hkn _ _ hx0 hB
   obtain ⟨⟨f, t9, m, Ac, cc, cs⟩, Hs⟩ : ∃ s, Hid (gs.getD k sgZ = s) := ⟨_, rfl⟩
   rw [Hs.out] at p0 p1 p2 p3 hch HOK
   simp only at p0 p1 p2 p3 hch HOK
   obtain ⟨ys, Hys⟩ : ∃ ys, Hid (app pO im cs = ys) := ⟨_, rfl⟩
   have hbd : Box wz.drew w.heap.size 107 #[ii g, ii b, ii p, ii t, .slice A xs.length c, .slice A2 ms.length c2, .slice (some ⟨bb, off, none⟩) n c3, inAt im 0, inAt im 1, inAt im 2, inAt im 3, inAt im 4, inAt im 5, inAt im 6, inAt im 7] := bq
   have rd := rq.nx (Nx.refl _).drew
   have hx2 := hx0.drew
   have hbw : bb < wz.drew.heap.size := Nat.lt_of_lt_of_le hbb (ntr hB hx2.size)
   have hneb : bb ≠ gR := by have := HgR.out; omega
   have hak : (a : Int) = (k : Int) + 1 := by have := Hk.out; omega
   rw [hak]
   have hkc : (k : Int) < (n : Int) := by omega
   have hk0 : (0 : Int) ≤ (k : Int) := by omega
   have hwk : IntKind.i64.wrap (k : Int) = (k : Int) := IntWalk.i64_in _ (by omega)
   clear hak
   go_wp2_with fail
   refine wp_planA (.t 0 (.t 1 (.t 2 (.t 3 (.t 4 (.t 5 (.t 6 (.t 7 (.t 9 (.t 10 (.c 8 (.c 11 (.t 12 .e))))))))))))) (fun w' => (w'.cell? ⟨w.heap.size, 0, none⟩ = some (ii g) ∧ w'.cell? ⟨w.heap.size, 1, none⟩ = some (ii b) ∧ w'.cell? ⟨w.heap.size, 2, none⟩ = some (ii p) ∧ w'.cell? ⟨w.heap.size, 3, none⟩ = some (ii t) ∧ w'.cell? ⟨w.heap.size, 4, none⟩ = some (.slice A xs.length c) ∧ w'.cell? ⟨w.heap.size, 5, none⟩ = some (.slice A2 ms.length c2) ∧ w'.cell? ⟨w.heap.size, 6, none⟩ = some (.slice (some ⟨bb, off, none⟩) n c3) ∧ w'.cell? ⟨w.heap.size, 7, none⟩ = some (inAt im 0) ∧ w'.cell? ⟨w.heap.size, 8, none⟩ = some (inAt im 1) ∧ w'.cell? ⟨w.heap.size, 9, none⟩ = some (inAt im 2) ∧ w'.cell? ⟨w.heap.size, 10, none⟩ = some (inAt im 3) ∧ w'.cell? ⟨w.heap.size, 11, none⟩ = some (inAt im 4) ∧ w'.cell? ⟨w.heap.size, 12, none⟩ = some (inAt im 5) ∧ w'.cell? ⟨w.heap.size, 13, none⟩ = some (inAt im 6) ∧ w'.cell? ⟨w.heap.size, 14, none⟩ = some (inAt im 7)) ∧ w'.cell? ⟨bb, off + k * 4, none⟩ = some (ii f) ∧ w'.cell? ⟨bb, off + k * 4 + 1, none⟩ = some (ii t9) ∧ w'.cell? ⟨bb, off + k * 4 + 2, none⟩ = some (ii m) ∧ w'.cell? ⟨bb, off + k * 4 + 3, none⟩ = some (.slice Ac cs.length cc)) (by exact ⟨hbd.e15, p0, p1, p2, p3⟩) ?_
   simp only [psOf, List.getD_cons_zero, List.getD_cons_succ]
   repeat ((first | refine HP.tk ?_ | refine HP.sk ?_); try simp only [Act.put, qqA, qqB, qqC])
   refine hPc fun K hK => ?_
   go_simp
   have hcl := valuesBackward_c f t9 m Ac cc B cs im _ (hch.below hx2 hB) (ntr hB hx2.size) HOK.out H8.out; rw [Hys.out] at hcl; unfold vA at hcl; refine hcl.mono ?_; rintro e w2 ⟨rfl, hx3⟩; clear hcl; have hb2 := hbd.nx hx3; have r2 := rd.nx hx3; replace p0 := (hx3.cell (p := ⟨bb, off + k * 4, none⟩) hbw).trans p0; replace p1 := (hx3.cell (p := ⟨bb, off + k * 4 + 1, none⟩) hbw).trans p1; replace p2 := (hx3.cell (p := ⟨bb, off + k * 4 + 2, none⟩) hbw).trans p2; replace p3 := (hx3.cell (p := ⟨bb, off + k * 4 + 3, none⟩) hbw).trans p3; have hX3 := hx2.trans hx3
   go_wp2_with fail
   refine hK.out _ _ (by exact ⟨hb2.e15, p0, p1, p2, p3⟩) ?_
   clear hK K
   try simp only [Act.put, qqA, qqB, qqC]
   refine hPc fun K hK => ?_
   refine wp_store_row _ _ _ rfl gR #[inAt ys 0, inAt ys 1, inAt ys 2, inAt ys 3, inAt ys 4, inAt ys 5, inAt ys 6, inAt ys 7] rfl rfl 105 #[ii 0, ii 0, ii 0, ii 0, ii 0, ii 0, ii 0, ii 0] r2 (by kernel_rfl) rfl (by simp [Value.oneCell', inAt]) ?_
   refine hK.out _ _ (by exact ⟨(hb2.rowfar hneR #[inAt ys 0, inAt ys 1, inAt ys 2, inAt ys 3, inAt ys 4, inAt ys 5, inAt ys 6, inAt ys 7]).e15, ((cell_row_far w2 gR #[inAt ys 0, inAt ys 1, inAt ys 2, inAt ys 3, inAt ys 4, inAt ys 5, inAt ys 6, inAt ys 7] (p := ⟨bb, off + k * 4, none⟩) (by simp; omega)).trans p0), ((cell_row_far w2 gR #[inAt ys 0, inAt ys 1, inAt ys 2, inAt ys 3, inAt ys 4, inAt ys 5, inAt ys 6, inAt ys 7] (p := ⟨bb, off + k * 4 + 1, none⟩) (by simp; omega)).trans p1), ((cell_row_far w2 gR #[inAt ys 0, inAt ys 1, inAt ys 2, inAt ys 3, inAt ys 4, inAt ys 5, inAt ys 6, inAt ys 7] (p := ⟨bb, off + k * 4 + 2, none⟩) (by simp; omega)).trans p2), ((cell_row_far w2 gR #[inAt ys 0, inAt ys 1, inAt ys 2, inAt ys 3, inAt ys 4, inAt ys 5, inAt ys 6, inAt ys 7] (p := ⟨bb, off + k * 4 + 3, none⟩) (by simp; omega)).trans p3)⟩) ?_
   clear hK K
   try simp only [Act.put]
   repeat ((first | refine HP.tk ?_ | refine HP.sk ?_); try simp only [Act.put, qqA, qqB, qqC])
   refine HP.done ?_
   have q := r2.row #[inAt ys 0, inAt ys 1, inAt ys 2, inAt ys 3, inAt ys 4, inAt ys 5, inAt ys 6, inAt ys 7]
   have hnf := hX3.setRow hgR #[inAt ys 0, inAt ys 1, inAt ys 2, inAt ys 3, inAt ys 4, inAt ys 5, inAt ys 6, inAt ys 7]
   generalize w2.setRow gR #[inAt ys 0, inAt ys 1, inAt ys 2, inAt ys 3, inAt ys 4, inAt ys 5, inAt ys 6, inAt ys 7] = Wf at *
   obtain ⟨g0, g1, g2, g3, g4, g5, g6, g7⟩ := q.e8
   go_wp2
   exact bodyPost_ret (v := .tuple #[.agg #[inAt ys 0, inAt ys 1, inAt ys 2, inAt ys 3, inAt ys 4, inAt ys 5, inAt ys 6, inAt ys 7], ii (k : Int)]) (by simp [results, Tryz.results148, go_sem, g0, g1, g2, g3, g4, g5, g6, g7]) rfl ⟨by rw [HSB.out, Hk.out, Hs.out]; show _ = Ending.returned (.tuple #[vA (app _ im cs), _]); rw [Hys.out]; rfl, hnf⟩
 rw [decide_eq_false hgt]
 have HSB := qh (show stp b p t gs im = (im, a) by rw [Hstp.out, if_neg (by have := Hlt.out; omega), if_neg hgt])
 clear hd hgt
 obtain ⟨y0, y1, y2, y3, y4, y5, y6, y7, y8, y9, y10, y11, y12, y13, y14⟩ := bq.e15
 go_wp2_with (refine wpList_store_row rfl _ _ _ rfl gR #[inAt im 0, inAt im 1, inAt im 2, inAt im 3, inAt im 4, inAt im 5, inAt im 6, inAt im 7] rfl rfl 105 #[ii 0, ii 0, ii 0, ii 0, ii 0, ii 0, ii 0, ii 0] rq (by kernel_rfl) rfl (by simp [Value.oneCell', inAt]) ?_)
 have q := rq.row #[inAt im 0, inAt im 1, inAt im 2, inAt im 3, inAt im 4, inAt im 5, inAt im 6, inAt im 7]
 have hnf := hx0.setRow hgR #[inAt im 0, inAt im 1, inAt im 2, inAt im 3, inAt im 4, inAt im 5, inAt im 6, inAt im 7]
 generalize wz.setRow gR #[inAt im 0, inAt im 1, inAt im 2, inAt im 3, inAt im 4, inAt im 5, inAt im 6, inAt im 7] = Wf at *
 obtain ⟨g0, g1, g2, g3, g4, g5, g6, g7⟩ := q.e8
 exact bodyPost_ret (v := .tuple #[.agg #[inAt im 0, inAt im 1, inAt im 2, inAt im 3, inAt im 4, inAt im 5, inAt im 6, inAt im 7], ii a]) (by simp [results, Tryz.results148, go_sem, g0, g1, g2, g3, g4, g5, g6, g7]) rfl ⟨by rw [HSB.out]; rfl, hnf⟩
theorem pk_int : Tryz.prog.plainKey 3 = true := by kernel_rfl
theorem eq_step (d : Nat) (a b : Array Value) (x y : Int) (i : Nat) (is : List Nat) (w : World) (ha : a[i]? = some (ii x)) (hb : b[i]? = some (ii y)) :
 (Op.eqItems (d + 1) 3 1 a b (i :: is)).run Tryz.prog w = if x = y then (Op.eqItems (d + 1) 3 1 a b is).run Tryz.prog w else .ok false w := by
 simp only [Op.eqItems, Sem.run_bind, Nat.mul_one]
 rw [run_part_plain (P := Tryz.prog) w pk_int ha]
 simp only [Result.andThen_ok]
 rw [run_part_plain (P := Tryz.prog) w pk_int hb]
 simp only [Result.andThen_ok]
 rw [run_equalIn_int (P := Tryz.prog) w d 3 .i64 .i64 x y Tryz.underlying3]
 simp only [Result.andThen_ok]
 by_cases h : x = y
 · subst h; simp
 · rw [if_neg h, show (x == y) = false by simp [h]]; simp
theorem eq_all (d : Nat) (a b : Array Value) (xs ys : List Int) (w : World) : ∀ is : List Nat, (∀ i ∈ is, a[i]? = some (inAt xs i)) → (∀ i ∈ is, b[i]? = some (inAt ys i)) →
 (Op.eqItems (d + 1) 3 1 a b is).run Tryz.prog w = .ok (is.all fun i => decide (xs.getD i 0 = ys.getD i 0)) w
 | [], _, _ => by simp [Op.eqItems]
 | i :: is, ha, hb => by
   rw [eq_step d a b (xs.getD i 0) (ys.getD i 0) i is w (ha i (by simp)) (hb i (by simp)), List.all_cons]
   by_cases h : xs.getD i 0 = ys.getD i 0
   · rw [if_pos h, eq_all d a b xs ys w is (fun j hj => ha j (by simp [hj])) (fun j hj => hb j (by simp [hj])), decide_eq_true h, Bool.true_and]
   · rw [if_neg h, decide_eq_false h, Bool.false_and]
def arr8 (xs : List Int) : Array Value := #[inAt xs 0, inAt xs 1, inAt xs 2, inAt xs 3, inAt xs 4, inAt xs 5, inAt xs 6, inAt xs 7]
theorem arr8_at (xs : List Int) : ∀ i ∈ List.range 8, (arr8 xs)[i]? = some (inAt xs i) := fun i hi => by
 have : i < 8 := by simpa using hi
 match i, this with
 | 0, _ => rfl
 | 1, _ => rfl
 | 2, _ => rfl
 | 3, _ => rfl
 | 4, _ => rfl
 | 5, _ => rfl
 | 6, _ => rfl
 | 7, _ => rfl
theorem all8 {xs ys : List Int} (h : xs.length = 8) (h2 : ys.length = 8) : ((List.range 8).all fun i => decide (xs.getD i 0 = ys.getD i 0)) = decide (xs = ys) := by
 by_cases e : xs = ys
 · rw [decide_eq_true e, List.all_eq_true]
   intro i _
   rw [e]; simp
 · rw [decide_eq_false e, List.all_eq_false]
   refine Classical.byContradiction fun hc => e (ext8 h h2 fun j hj => Classical.byContradiction fun hn => hc ⟨j, by simpa using hj, by simpa using hn⟩)
theorem und_values : Tryz.prog.underlying 105 = some (.array 8 3) := Tryz.underlying105
theorem equal_arr (d : Nat) {xs ys : List Int} (h : xs.length = 8) (h2 : ys.length = 8) (w : World) : (Op.equalIn (d + 2) 105 (.agg (arr8 xs)) (.agg (arr8 ys))).run Tryz.prog w = .ok (decide (xs = ys)) w := by
 obtain ⟨i0, hi0, hz0, hz1, hz2⟩ := info_parts info_int
 rw [run_equalIn_array (P := Tryz.prog) w (d + 1) (arr8 xs) (arr8 ys) und_values hi0, show Tryz.prog.cellsOf 3 = 1 from ci_, eq_all d _ _ xs ys w _ (arr8_at xs) (arr8_at ys), all8 h h2]
theorem neq_arr {xs ys : List Int} (h : xs.length = 8) (h2 : ys.length = 8) (w : World) : (binOp .neq 105 (.agg (arr8 xs)) (.agg (arr8 ys))).run Tryz.prog w = .ok (.bool (!decide (xs = ys))) w := by
 rw [run_neq_struct, show (10000 : Nat) = 9998 + 2 from rfl, equal_arr 9998 h h2]; rfl
theorem eqg_values : Tryz.prog.eqGuardType Tryz.prog.depth 105 = false := by kernel_rfl
theorem neq_op {o : Oper} {a : Act} {x y : Operand} {xs ys : List Int} {t : TypeId} (h : xs.length = 8) (h2 : ys.length = 8) (w : World) (ho : o.op = .binOp .neq 105 x y t) (hx : a.eval x = .agg (arr8 xs)) (hy : a.eval y = .agg (arr8 ys)) :
 (execOp a.eval o).run Tryz.prog w = .ok (.value (.bool (!decide (xs = ys)))) w := by
 unfold execOp
 simp only [ho, hx, hy]
 simp [run_eqGuard_agg (P := Tryz.prog) w .neq 105 x y (arr8 xs) (arr8 ys) eqg_values, neq_arr h h2]
theorem fitsForward_c (V : Vl) (B : Nat) (w : World) (h : Sgs w B V.A3 V.gs) (hB : B ≤ w.heap.size) (hl : Lead V.b V.gs) (hc3 : V.gs.length ≤ V.c3) (h8 : V.im.length = 8) (hp : plcB V.b V.p V.t V.gs V.ms = true) :
 Calls Tryz.prog 144 #[V.w] w fun e w' => e = .returned (.bool (fitF (stp V.b V.p V.t V.gs V.im).1 V.gs (stp V.b V.p V.t V.gs V.im).2)) ∧ Nx w w' := by
 have hSD := stepDone_c V B
 obtain ⟨g, b, p, t, A, c, xs, A2, c2, ms, A3, c3, gs, A4, c4, im⟩ := V
 simp only [Vl.w, Vl.wcells] at *
 have hsl := stp_le (t := t) im hl hp
 have HSD := qh (fun (w' : World) (hx : Nx w w') => hSD w' (h.below hx hB) (ntr hB hx.size) hl h8 (by unfold plcB at hp; simp only [Bool.and_eq_true] at hp; exact hp.1.2) hsl.2)
 have HL0 : Hid ((stp b p t gs im).1.length = 8) := qh (by rw [stp_len]; exact h8)
 have hat := hsl.1
 obtain ⟨n, Hn⟩ : ∃ n, Hid (gs.length = n) := ⟨_, rfl⟩
 have HSg := qh (fun (k : Nat) (hk : k < gs.length) (w' : World) (hx : Nx w w') => (h.below hx hB).row.at4 hk)
 have HCh := qh (fun (k : Nat) (hk : k < gs.length) (w' : World) (hx : Nx w w') => (h.chs k hk).below hx hB)
 have HOKs := qh (fun k (hk : k < n) => hl.ok k (by rw [Hn.out]; exact hk))
 have hn9 : n ≤ 4096 := by have := hl.short; rw [Hn.out] at this; exact this
 rw [Hn.out] at HSD HSg HCh hc3 hat ⊢
 obtain ⟨c0, Hc0⟩ : ∃ c0, Hid ((stp b p t gs im).1 = c0) := ⟨_, rfl⟩
 obtain ⟨a, Hat⟩ : ∃ a, Hid ((stp b p t gs im).2 = a) := ⟨_, rfl⟩
 rw [Hc0.out, Hat.out] at HSD ⊢
 rw [Hc0.out] at HL0
 rw [Hat.out] at hat
 have b0 := Box.new w 107 #[ii g, ii b, ii p, ii t, .slice A xs.length c, .slice A2 ms.length c2, .slice A3 n c3, inAt im 0, inAt im 1, inAt im 2, inAt im 3, inAt im 4, inAt im 5, inAt im 6, inAt im 7]
 have hx0 := (Nx.refl w).alloc (.cells #[ii g, ii b, ii p, ii t, .slice A xs.length c, .slice A2 ms.length c2, .slice A3 n c3, inAt im 0, inAt im 1, inAt im 2, inAt im 3, inAt im 4, inAt im 5, inAt im 6, inAt im 7] 107)
 clear hSD h hl h8 hp hsl
 go_enter Tryz.func144, Tryz.ntmps144
 go_wp2_with fail
 generalize w.alloc (.cells #[ii g, ii b, ii p, ii t, .slice A xs.length c, .slice A2 ms.length c2, .slice A3 n c3, inAt im 0, inAt im 1, inAt im 2, inAt im 3, inAt im 4, inAt im 5, inAt im 6, inAt im 7] 107) = W at *
 refine (HSD.out _ hx0).mono ?_
 rintro e w1 ⟨rfl, hk⟩
 unfold vA
 have b1 := b0.nx hk
 replace hx0 := hx0.trans hk
 have rz := Box.new w1 105 #[ii 0, ii 0, ii 0, ii 0, ii 0, ii 0, ii 0, ii 0]
 have b2 := (b1.alloc (.cells #[ii 0, ii 0, ii 0, ii 0, ii 0, ii 0, ii 0, ii 0] 105)).rowfar (show w.heap.size ≠ w1.heap.size by have := b1.lt; omega) #[inAt c0 0, inAt c0 1, inAt c0 2, inAt c0 3, inAt c0 4, inAt c0 5, inAt c0 6, inAt c0 7]
 have ba := rz.row #[inAt c0 0, inAt c0 1, inAt c0 2, inAt c0 3, inAt c0 4, inAt c0 5, inAt c0 6, inAt c0 7]
 have hx2 := (hx0.alloc (.cells #[ii 0, ii 0, ii 0, ii 0, ii 0, ii 0, ii 0, ii 0] 105)).setRow (g := w1.heap.size) hx0.size #[inAt c0 0, inAt c0 1, inAt c0 2, inAt c0 3, inAt c0 4, inAt c0 5, inAt c0 6, inAt c0 7]
 obtain ⟨y0, y1, y2, y3, y4, y5, y6, y7, y8, y9, y10, y11, y12, y13, y14⟩ := b2.e15
 have ha0 : (0 : Int) ≤ (a : Int) := by omega
 have han : (a : Int) ≤ (n : Int) := by omega
 clear b0 hk
 by_cases hlt : a < n
 case neg =>
  have hz : n - a = 0 := by omega
  have HR := qh (show fitF c0 gs a = true from FitF.all (by rw [Hn.out, hz]; exact FitF.zero _ _ _))
  clear hlt
  by_cases hce : c3 = a
  · go_wp2_with (refine wpList_store_row rfl _ _ _ rfl w1.heap.size #[inAt c0 0, inAt c0 1, inAt c0 2, inAt c0 3, inAt c0 4, inAt c0 5, inAt c0 6, inAt c0 7] rfl rfl 105 #[ii 0, ii 0, ii 0, ii 0, ii 0, ii 0, ii 0, ii 0] rz (by kernel_rfl) rfl (by simp [Value.oneCell', inAt]) ?_)
    go_loopw [17] (fun i wr => i = ii 0 ∧ Nx w wr) (fun _ _ => 0)
    case atStart => exact ⟨rfl, hx2⟩
    case round =>
     obtain ⟨rfl, hnx⟩ := hrel
     go_wp2
     go_ret
     exact ⟨ret_bool HR.out.symm, hnx⟩
  · go_wp2_with (refine wpList_store_row rfl _ _ _ rfl w1.heap.size #[inAt c0 0, inAt c0 1, inAt c0 2, inAt c0 3, inAt c0 4, inAt c0 5, inAt c0 6, inAt c0 7] rfl rfl 105 #[ii 0, ii 0, ii 0, ii 0, ii 0, ii 0, ii 0, ii 0] rz (by kernel_rfl) rfl (by simp [Value.oneCell', inAt]) ?_)
    go_loopw [17] (fun i wr => i = ii 0 ∧ Nx w wr) (fun _ _ => 0)
    case atStart => exact ⟨rfl, hx2⟩
    case round =>
     obtain ⟨rfl, hnx⟩ := hrel
     go_wp2
     go_ret
     exact ⟨ret_bool HR.out.symm, hnx⟩
 have hce : ¬ c3 = a := by omega
 obtain ⟨bb, off, rfl, hbb, _, _, _, _⟩ := HSg.out a hlt _ hx2
 go_wp2_with (refine wpList_store_row rfl _ _ _ rfl w1.heap.size #[inAt c0 0, inAt c0 1, inAt c0 2, inAt c0 3, inAt c0 4, inAt c0 5, inAt c0 6, inAt c0 7] rfl rfl 105 #[ii 0, ii 0, ii 0, ii 0, ii 0, ii 0, ii 0, ii 0] rz (by kernel_rfl) rfl (by simp [Value.oneCell', inAt]) ?_)
 have hgA : w.heap.size ≤ w1.heap.size := hx0.size
 clear b1 rz y0 y1 y2 y3 y4 y5 y6 y7 y8 y9 y10 y11 y12 y13 y14 b2 hce ha0 han hx0
 generalize (w1.alloc (.cells #[ii 0, ii 0, ii 0, ii 0, ii 0, ii 0, ii 0, ii 0] 105)).setRow w1.heap.size #[inAt c0 0, inAt c0 1, inAt c0 2, inAt c0 3, inAt c0 4, inAt c0 5, inAt c0 6, inAt c0 7] = Wl at *
 generalize w1.heap.size = gA at *
 obtain ⟨m, Hm⟩ : ∃ m, Hid (n - a = m) := ⟨_, rfl⟩
 rw [Hm.out]
 have hm9 : m ≤ 4096 := by have := Hm.out; omega
 go_loopw [17] (fun i wr => ∃ j : Nat, j ≤ m ∧ i = ii j ∧ FitF c0 gs a j ∧ Box wr gA 105 #[inAt (fwK c0 gs a j) 0, inAt (fwK c0 gs a j) 1, inAt (fwK c0 gs a j) 2, inAt (fwK c0 gs a j) 3, inAt (fwK c0 gs a j) 4, inAt (fwK c0 gs a j) 5, inAt (fwK c0 gs a j) 6, inAt (fwK c0 gs a j) 7] ∧ Nx w wr) (fun i _ => m - (intOf i).toNat)
 case atStart => exact ⟨0, Nat.zero_le _, rfl, FitF.zero _ _ _, ba, hx2⟩
 case round =>
 obtain ⟨j, hj, rfl, hfit, hbx, hnx⟩ := hrel
 clear hx2 ba
 by_cases hjm : j < m
 case neg =>
  obtain rfl : m = j := by omega
  have HR := qh (show fitF c0 gs a = true from FitF.all (by rw [Hn.out, Hm.out]; exact hfit))
  go_wp2
  go_ret
  exact ⟨ret_bool HR.out.symm, hnx⟩
 have hkn : a + j < n := by have := Hm.out; omega
 obtain ⟨b', off', he, _, p0, p1, p2, p3⟩ := HSg.out (a + j) hkn wr hnx
 obtain ⟨rfl, rfl⟩ : bb = b' ∧ off = off' := by simpa using he
 clear he
 have HCk := qh (HCh.out (a + j) hkn)
 have HOKc := qh (HOKs.out (a + j) hkn)
 have HFs := qh (fun hh => hfit.succ hh)
 have HFn := qh (fun hh => fitF_no (c := c0) (gs := gs) (a := a) (k := j) (by rw [Hn.out]; exact hkn) hh)
 have HLj : Hid ((fwK c0 gs a j).length = 8) := qh (by rw [fwK_len]; exact HL0.out)
 have Hsuc : Hid (fwK c0 gs a (j + 1) = app pN (fwK c0 gs a j) (gs.getD (a + j) sgZ).cs) := qh rfl
 obtain ⟨cj, Hcj⟩ : ∃ cj, Hid (fwK c0 gs a j = cj) := ⟨_, rfl⟩
 rw [Hcj.out] at HFs HFn HLj Hsuc hbx
 obtain ⟨⟨f, t9, m9, Ac, cc, cs⟩, Hs⟩ : ∃ s, Hid (gs.getD (a + j) sgZ = s) := ⟨_, rfl⟩
 rw [Hs.out] at p0 p1 p2 p3 HCk HOKc HFs HFn Hsuc
 simp only at p0 p1 p2 p3 HCk HOKc Hsuc
 rw [show off + (a + j) * 4 = off + a * 4 + j * 4 by omega] at p0 p1 p2 p3
 have HLy : Hid ((app pO cj cs).length = 8) := qh (by rw [app_len]; exact HLj.out)
 have HLn : Hid ((app pN cj cs).length = 8) := qh (by rw [app_len]; exact HLj.out)
 have bg := Box.new wr 122 #[ii f, ii t9, ii m9, .slice Ac cs.length cc]
 have hxg := (Nx.refl wr).alloc (.cells #[ii f, ii t9, ii m9, .slice Ac cs.length cc] 122)
 have ba1 := hbx.nx hxg
 have hnxa := hnx.trans hxg
 have hjc : (j : Int) < (m : Int) := by omega
 have hj0 : (0 : Int) ≤ (j : Int) := by omega
 have hjn : j < n - a := by have := Hm.out; omega
 clear hfit hbx hxg
 go_wp2_with fail
 generalize wr.alloc (.cells #[ii f, ii t9, ii m9, .slice Ac cs.length cc] 122) = wa at *
 generalize wr.heap.size = gG at *
 have bad := ba1.nx (Nx.refl _).drew
 have bgd := bg.nx (Nx.refl _).drew
 clear p0 p1 p2 p3 ba1 bg
 refine wp_planA (.t 0 (.t 1 (.t 3 (.c 2 (.t 4 .e))))) (fun w' => (w'.cell? ⟨gA, 0, none⟩ = some (inAt cj 0) ∧ w'.cell? ⟨gA, 1, none⟩ = some (inAt cj 1) ∧ w'.cell? ⟨gA, 2, none⟩ = some (inAt cj 2) ∧ w'.cell? ⟨gA, 3, none⟩ = some (inAt cj 3) ∧ w'.cell? ⟨gA, 4, none⟩ = some (inAt cj 4) ∧ w'.cell? ⟨gA, 5, none⟩ = some (inAt cj 5) ∧ w'.cell? ⟨gA, 6, none⟩ = some (inAt cj 6) ∧ w'.cell? ⟨gA, 7, none⟩ = some (inAt cj 7)) ∧ (w'.cell? ⟨gG, 0, none⟩ = some (ii f) ∧ w'.cell? ⟨gG, 1, none⟩ = some (ii t9) ∧ w'.cell? ⟨gG, 2, none⟩ = some (ii m9) ∧ w'.cell? ⟨gG, 3, none⟩ = some (.slice Ac cs.length cc))) (by exact ⟨bad.e8, bgd.d4⟩) ?_
 simp only [psOf, List.getD_cons_zero, List.getD_cons_succ]
 repeat ((first | refine HP.tk ?_ | refine HP.sk ?_); try simp only [Act.put, qqA, qqB, qqC])
 refine hPc fun K hK => ?_
 go_simp
 have hcl := valuesBackward_c f t9 m9 Ac cc B cs cj _ (HCk.out _ hnxa.drew) (ntr hB hnxa.drew.size) HOKc.out HLj.out; unfold vA at hcl; refine hcl.mono ?_; rintro e w8 ⟨rfl, hk8⟩; clear hcl; have ba8 := bad.nx hk8; have bg8 := bgd.nx hk8; have hnx8 := hnxa.drew.trans hk8
 go_wp2_with fail
 refine hK.out _ _ (by exact ⟨ba8.e8, bg8.d4⟩) ?_
 clear hK K
 try simp only [Act.put, qqA, qqB, qqC]
 refine HP.take (v := .bool (!decide (app pO cj cs = cj))) (by rfl) (fun w _ => neq_op HLy.out HLj.out w rfl rfl rfl) ?_
 try simp only [Act.put, qqA, qqB, qqC]
 refine HP.done ?_
 by_cases ho : app pO cj cs = cj
 case neg =>
  have HR := qh (HFn.out (decide_eq_false ho))
  rw [decide_eq_false ho]
  clear ho HFs HFn
  go_wp2
  go_ret
  exact ⟨ret_bool HR.out.symm, hnx8⟩
 have HFs' := qh (HFs.out (decide_eq_true ho))
 rw [decide_eq_true ho]
 clear ho HFs HFn
 obtain ⟨y0, y1, y2, y3, y4, y5, y6, y7⟩ := ba8.e8
 obtain ⟨q0, q1, q2, q3⟩ := bg8.d4
 go_wp2_with fail
 have hcl := valuesForward_c f t9 m9 Ac cc B cs cj _ (HCk.out _ hnx8) (ntr hB hnx8.size) HOKc.out HLj.out
 unfold vA at hcl
 refine hcl.mono ?_
 rintro e w9 ⟨rfl, hk9⟩
 have ba9 := ba8.nx hk9
 have hnx9 := hnx8.trans hk9
 clear hcl y0 y1 y2 y3 y4 y5 y6 y7 q0 q1 q2 q3 ba8 bg8
 have bz := ba9.row #[inAt (app pN cj cs) 0, inAt (app pN cj cs) 1, inAt (app pN cj cs) 2, inAt (app pN cj cs) 3, inAt (app pN cj cs) 4, inAt (app pN cj cs) 5, inAt (app pN cj cs) 6, inAt (app pN cj cs) 7]
 have hnxz := hnx9.setRow hgA #[inAt (app pN cj cs) 0, inAt (app pN cj cs) 1, inAt (app pN cj cs) 2, inAt (app pN cj cs) 3, inAt (app pN cj cs) 4, inAt (app pN cj cs) 5, inAt (app pN cj cs) 6, inAt (app pN cj cs) 7]
 go_wp2_with (refine wpList_store_row rfl _ _ _ rfl gA #[inAt (app pN cj cs) 0, inAt (app pN cj cs) 1, inAt (app pN cj cs) 2, inAt (app pN cj cs) 3, inAt (app pN cj cs) 4, inAt (app pN cj cs) 5, inAt (app pN cj cs) 6, inAt (app pN cj cs) 7] rfl rfl 105 #[inAt cj 0, inAt cj 1, inAt cj 2, inAt cj 3, inAt cj 4, inAt cj 5, inAt cj 6, inAt cj 7] ba9 (by kernel_rfl) rfl (by simp [Value.oneCell', inAt]) ?_)
 go_roundw
 case rel => exact ⟨j + 1, by omega, by go_num, HFs'.out, by rw [Hsuc.out]; exact bz, hnxz⟩
 case measure => (simp [intOf] <;> omega)
theorem fitsBack_c (V : Vl) (B : Nat) (w : World) (h : Sgs w B V.A3 V.gs) (hB : B ≤ w.heap.size) (hl : Lead V.b V.gs) (h8 : V.im.length = 8) (hp : plcB V.b V.p V.t V.gs V.ms = true) :
 Calls Tryz.prog 145 #[V.w] w fun e w' => e = .returned (.bool (fitB (stp V.b V.p V.t V.gs V.im).1 V.gs (stp V.b V.p V.t V.gs V.im).2)) ∧ Nx w w' := by
 have hSD := stepDone_c V B
 obtain ⟨g, b, p, t, A, c, xs, A2, c2, ms, A3, c3, gs, A4, c4, im⟩ := V
 simp only [Vl.w, Vl.wcells] at *
 have hsl := stp_le (t := t) im hl hp
 have HSD := qh (fun (w' : World) (hx : Nx w w') => hSD w' (h.below hx hB) (ntr hB hx.size) hl h8 (by unfold plcB at hp; simp only [Bool.and_eq_true] at hp; exact hp.1.2) hsl.2)
 have HL0 : Hid ((stp b p t gs im).1.length = 8) := qh (by rw [stp_len]; exact h8)
 have hat := hsl.1
 obtain ⟨n, Hn⟩ : ∃ n, Hid (gs.length = n) := ⟨_, rfl⟩
 have HSg := qh (fun (k : Nat) (hk : k < gs.length) (w' : World) (hx : Nx w w') => (h.below hx hB).row.at4 hk)
 have HCh := qh (fun (k : Nat) (hk : k < gs.length) (w' : World) (hx : Nx w w') => (h.chs k hk).below hx hB)
 have HOKs := qh (fun k (hk : k < n) => hl.ok k (by rw [Hn.out]; exact hk))
 have hn9 : n ≤ 4096 := by have := hl.short; rw [Hn.out] at this; exact this
 rw [Hn.out] at HSD HSg HCh hat ⊢
 obtain ⟨c0, Hc0⟩ : ∃ c0, Hid ((stp b p t gs im).1 = c0) := ⟨_, rfl⟩
 obtain ⟨a, Hat⟩ : ∃ a, Hid ((stp b p t gs im).2 = a) := ⟨_, rfl⟩
 rw [Hc0.out, Hat.out] at HSD ⊢
 rw [Hc0.out] at HL0
 rw [Hat.out] at hat
 have b0 := Box.new w 107 #[ii g, ii b, ii p, ii t, .slice A xs.length c, .slice A2 ms.length c2, .slice A3 n c3, inAt im 0, inAt im 1, inAt im 2, inAt im 3, inAt im 4, inAt im 5, inAt im 6, inAt im 7]
 have hx0 := (Nx.refl w).alloc (.cells #[ii g, ii b, ii p, ii t, .slice A xs.length c, .slice A2 ms.length c2, .slice A3 n c3, inAt im 0, inAt im 1, inAt im 2, inAt im 3, inAt im 4, inAt im 5, inAt im 6, inAt im 7] 107)
 clear hSD h hl h8 hp hsl
 go_enter Tryz.func145, Tryz.ntmps145
 go_wp2_with fail
 generalize w.alloc (.cells #[ii g, ii b, ii p, ii t, .slice A xs.length c, .slice A2 ms.length c2, .slice A3 n c3, inAt im 0, inAt im 1, inAt im 2, inAt im 3, inAt im 4, inAt im 5, inAt im 6, inAt im 7] 107) = W at *
 refine (HSD.out _ hx0).mono ?_
 rintro e w1 ⟨rfl, hk⟩
 unfold vA
 have b1 := b0.nx hk
 replace hx0 := hx0.trans hk
 have rz := Box.new w1 105 #[ii 0, ii 0, ii 0, ii 0, ii 0, ii 0, ii 0, ii 0]
 have b2 := (b1.alloc (.cells #[ii 0, ii 0, ii 0, ii 0, ii 0, ii 0, ii 0, ii 0] 105)).rowfar (show w.heap.size ≠ w1.heap.size by have := b1.lt; omega) #[inAt c0 0, inAt c0 1, inAt c0 2, inAt c0 3, inAt c0 4, inAt c0 5, inAt c0 6, inAt c0 7]
 have ba := rz.row #[inAt c0 0, inAt c0 1, inAt c0 2, inAt c0 3, inAt c0 4, inAt c0 5, inAt c0 6, inAt c0 7]
 have hx2 := (hx0.alloc (.cells #[ii 0, ii 0, ii 0, ii 0, ii 0, ii 0, ii 0, ii 0] 105)).setRow (g := w1.heap.size) hx0.size #[inAt c0 0, inAt c0 1, inAt c0 2, inAt c0 3, inAt c0 4, inAt c0 5, inAt c0 6, inAt c0 7]
 have hwn : IntKind.i64.wrap ((a : Int) - 1) = (a : Int) - 1 := IntWalk.i64_in _ (by omega)
 clear b0 hk
 go_wp2_with (refine wpList_store_row rfl _ _ _ rfl w1.heap.size #[inAt c0 0, inAt c0 1, inAt c0 2, inAt c0 3, inAt c0 4, inAt c0 5, inAt c0 6, inAt c0 7] rfl rfl 105 #[ii 0, ii 0, ii 0, ii 0, ii 0, ii 0, ii 0, ii 0] rz (by kernel_rfl) rfl (by simp [Value.oneCell', inAt]) ?_)
 have hgA : w.heap.size ≤ w1.heap.size := hx0.size
 have hneA : w.heap.size ≠ w1.heap.size := by have := b1.lt; omega
 clear b1 rz hx0
 generalize (w1.alloc (.cells #[ii 0, ii 0, ii 0, ii 0, ii 0, ii 0, ii 0, ii 0] 105)).setRow w1.heap.size #[inAt c0 0, inAt c0 1, inAt c0 2, inAt c0 3, inAt c0 4, inAt c0 5, inAt c0 6, inAt c0 7] = Wl at *
 generalize w1.heap.size = gA at *
 go_loopw [5] (fun i wr => ∃ k : Nat, k ≤ a ∧ i = ii ((k : Int) - 1) ∧ FitB c0 gs a (a - k) ∧ Box wr gA 105 #[inAt (bkK c0 gs a (a - k)) 0, inAt (bkK c0 gs a (a - k)) 1, inAt (bkK c0 gs a (a - k)) 2, inAt (bkK c0 gs a (a - k)) 3, inAt (bkK c0 gs a (a - k)) 4, inAt (bkK c0 gs a (a - k)) 5, inAt (bkK c0 gs a (a - k)) 6, inAt (bkK c0 gs a (a - k)) 7] ∧ Nx w wr ∧ Box wr w.heap.size 107 #[ii g, ii b, ii p, ii t, .slice A xs.length c, .slice A2 ms.length c2, .slice A3 n c3, inAt im 0, inAt im 1, inAt im 2, inAt im 3, inAt im 4, inAt im 5, inAt im 6, inAt im 7]) (fun i _ => (intOf i + 1).toNat)
 case atStart => exact ⟨a, Nat.le_refl _, rfl, by rw [Nat.sub_self]; exact FitB.zero _ _ _, by rw [Nat.sub_self]; exact ba, hx2, b2⟩
 case round =>
 obtain ⟨k, hk, rfl, hfit, hbx, hnx, hb⟩ := hrel
 clear hx2 ba b2 hwn
 by_cases hk0 : k = 0
 case pos =>
  have HR := qh (show fitB c0 gs a = true from FitB.all (by rw [hk0, Nat.sub_zero] at hfit; exact hfit))
  rw [show ((k : Int) - 1) = -1 by omega]
  clear hk0 hfit
  go_wp2
  go_ret
  exact ⟨ret_bool HR.out.symm, hnx⟩
 obtain ⟨i, rfl⟩ : ∃ i, k = i + 1 := ⟨k - 1, by omega⟩
 rw [show ((i + 1 : Nat) : Int) - 1 = (i : Int) by omega]
 have hkn : i < n := by omega
 obtain ⟨j, Hj⟩ : ∃ j, Hid (a - (i + 1) = j) := ⟨_, rfl⟩
 have Hkj : Hid (i = a - 1 - j) := qh (by have := Hj.out; omega)
 rw [Hj.out] at hfit hbx
 obtain ⟨bb, off, rfl, hbb, p0, p1, p2, p3⟩ := HSg.out i hkn wr hnx
 have hbw : bb < wr.heap.size := Nat.lt_of_lt_of_le hbb (ntr hB hnx.size)
 have HCk := qh (HCh.out i hkn)
 have HOKc := qh (HOKs.out i hkn)
 have HFs := qh (fun hh => hfit.succ hh)
 have HFn := qh (fun hh => fitB_no (c := c0) (gs := gs) (a := a) (k := j) (by have := Hj.out; omega) hh)
 rw [← Hkj.out] at HFs HFn
 have HLj : Hid ((bkK c0 gs a j).length = 8) := qh (by rw [bkK_len]; exact HL0.out)
 have Hsuc : Hid (bkK c0 gs a (j + 1) = app pO (bkK c0 gs a j) (gs.getD i sgZ).cs) := qh (by rw [Hkj.out]; rfl)
 obtain ⟨cj, Hcj⟩ : ∃ cj, Hid (bkK c0 gs a j = cj) := ⟨_, rfl⟩
 rw [Hcj.out] at HFs HFn HLj Hsuc hbx
 obtain ⟨⟨f, t9, m9, Ac, cc, cs⟩, Hs⟩ : ∃ s, Hid (gs.getD i sgZ = s) := ⟨_, rfl⟩
 rw [Hs.out] at p0 p1 p2 p3 HCk HOKc HFs HFn Hsuc
 simp only at p0 p1 p2 p3 HCk HOKc Hsuc
 have HLy : Hid ((app pO cj cs).length = 8) := qh (by rw [app_len]; exact HLj.out)
 have HLn : Hid ((app pN cj cs).length = 8) := qh (by rw [app_len]; exact HLj.out)
 have hkc : (i : Int) < (n : Int) := by omega
 have hk0 : (0 : Int) ≤ (i : Int) := by omega
 have hwi : IntKind.i64.wrap ((i : Int) - 1) = (i : Int) - 1 := IntWalk.i64_in _ (by omega)
 have Hin := qh hkn
 clear hfit hk0 hkn
 go_wp2_with fail
 have bad := hbx.nx (Nx.refl _).drew
 have vbd : Box wr.drew w.heap.size 107 #[ii g, ii b, ii p, ii t, .slice A xs.length c, .slice A2 ms.length c2, .slice (some ⟨bb, off, none⟩) n c3, inAt im 0, inAt im 1, inAt im 2, inAt im 3, inAt im 4, inAt im 5, inAt im 6, inAt im 7] := hb
 have hnxd := hnx.drew
 replace hbw : bb < wr.drew.heap.size := hbw
 have p0 : wr.drew.cell? ⟨bb, off + i * 4, none⟩ = _ := p0; have p1 : wr.drew.cell? ⟨bb, off + i * 4 + 1, none⟩ = _ := p1; have p2 : wr.drew.cell? ⟨bb, off + i * 4 + 2, none⟩ = _ := p2; have p3 : wr.drew.cell? ⟨bb, off + i * 4 + 3, none⟩ = _ := p3
 clear hbx hb
 refine wp_planA (.t 0 (.t 1 (.t 2 (.t 3 (.t 4 (.t 5 (.t 7 (.c 6 (.t 8 .e))))))))) (fun w' => (w'.cell? ⟨gA, 0, none⟩ = some (inAt cj 0) ∧ w'.cell? ⟨gA, 1, none⟩ = some (inAt cj 1) ∧ w'.cell? ⟨gA, 2, none⟩ = some (inAt cj 2) ∧ w'.cell? ⟨gA, 3, none⟩ = some (inAt cj 3) ∧ w'.cell? ⟨gA, 4, none⟩ = some (inAt cj 4) ∧ w'.cell? ⟨gA, 5, none⟩ = some (inAt cj 5) ∧ w'.cell? ⟨gA, 6, none⟩ = some (inAt cj 6) ∧ w'.cell? ⟨gA, 7, none⟩ = some (inAt cj 7)) ∧ w'.cell? ⟨w.heap.size, 6, none⟩ = some (.slice (some ⟨bb, off, none⟩) n c3) ∧ w'.cell? ⟨bb, off + i * 4, none⟩ = some (ii f) ∧ w'.cell? ⟨bb, off + i * 4 + 1, none⟩ = some (ii t9) ∧ w'.cell? ⟨bb, off + i * 4 + 2, none⟩ = some (ii m9) ∧ w'.cell? ⟨bb, off + i * 4 + 3, none⟩ = some (.slice Ac cs.length cc)) (by exact ⟨bad.e8, vbd.cell 6, p0, p1, p2, p3⟩) ?_
 simp only [psOf, List.getD_cons_zero, List.getD_cons_succ]
 repeat ((first | refine HP.tk ?_ | refine HP.sk ?_); try simp only [Act.put, qqA, qqB, qqC])
 refine hPc fun K hK => ?_
 go_simp
 have hcl := valuesForward_c f t9 m9 Ac cc B cs cj _ (HCk.out _ hnxd) (ntr hB hnxd.size) HOKc.out HLj.out; unfold vA at hcl; refine hcl.mono ?_; rintro e w8 ⟨rfl, hk8⟩; clear hcl; have ba8 := bad.nx hk8; have vb8 := vbd.nx hk8; have hnx8 := hnxd.trans hk8; have hbw8 := hbw; replace hbw := Nat.lt_of_lt_of_le hbw hk8.size; have hbq8 : bb < w.heap.size := Nat.lt_of_lt_of_le hbb hB; replace p0 := (hk8.cell (p := ⟨bb, off + i * 4, none⟩) hbw8).trans p0; replace p1 := (hk8.cell (p := ⟨bb, off + i * 4 + 1, none⟩) hbw8).trans p1; replace p2 := (hk8.cell (p := ⟨bb, off + i * 4 + 2, none⟩) hbw8).trans p2; replace p3 := (hk8.cell (p := ⟨bb, off + i * 4 + 3, none⟩) hbw8).trans p3
 go_wp2_with fail
 refine hK.out _ _ (by exact ⟨ba8.e8, vb8.cell 6, p0, p1, p2, p3⟩) ?_
 clear hK K
 try simp only [Act.put, qqA, qqB, qqC]
 refine HP.take (v := .bool (!decide (app pN cj cs = cj))) (by rfl) (fun w _ => neq_op HLn.out HLj.out w rfl rfl rfl) ?_
 try simp only [Act.put, qqA, qqB, qqC]
 refine HP.done ?_
 by_cases ho : app pN cj cs = cj
 case neg =>
  have HR := qh (HFn.out (decide_eq_false ho))
  rw [decide_eq_false ho]
  clear ho HFs HFn
  go_wp2
  go_ret
  exact ⟨ret_bool HR.out.symm, hnx8⟩
 have HFs' := qh (HFs.out (decide_eq_true ho))
 rw [decide_eq_true ho]
 clear ho HFs HFn
 go_wp2_with fail
 have bae := ba8.nx (Nx.refl _).drew
 have vbe := vb8.nx (Nx.refl _).drew
 have hnxe := hnx8.drew
 replace hbw : bb < w8.drew.heap.size := hbw
 have p0 : w8.drew.cell? ⟨bb, off + i * 4, none⟩ = _ := p0; have p1 : w8.drew.cell? ⟨bb, off + i * 4 + 1, none⟩ = _ := p1; have p2 : w8.drew.cell? ⟨bb, off + i * 4 + 2, none⟩ = _ := p2; have p3 : w8.drew.cell? ⟨bb, off + i * 4 + 3, none⟩ = _ := p3
 have hneb : bb ≠ gA := by omega
 clear ba8 vb8
 refine wp_planA (.t 1 (.t 2 (.t 3 (.t 4 (.t 5 (.c 0 (.c 6 (.c 7 .e)))))))) (fun w' => w'.cell? ⟨w.heap.size, 6, none⟩ = some (.slice (some ⟨bb, off, none⟩) n c3) ∧ w'.cell? ⟨bb, off + i * 4, none⟩ = some (ii f) ∧ w'.cell? ⟨bb, off + i * 4 + 1, none⟩ = some (ii t9) ∧ w'.cell? ⟨bb, off + i * 4 + 2, none⟩ = some (ii m9) ∧ w'.cell? ⟨bb, off + i * 4 + 3, none⟩ = some (.slice Ac cs.length cc)) (by exact ⟨vbe.cell 6, p0, p1, p2, p3⟩) ?_
 simp only [psOf, List.getD_cons_zero, List.getD_cons_succ]
 repeat ((first | refine HP.tk ?_ | refine HP.sk ?_); try simp only [Act.put, qqA, qqB, qqC])
 refine hPc fun K hK => ?_
 refine wp_load_row _ _ rfl gA rfl 105 #[inAt cj 0, inAt cj 1, inAt cj 2, inAt cj 3, inAt cj 4, inAt cj 5, inAt cj 6, inAt cj 7] (0, 0) _ bae und_values rfl (by kernel_rfl) ?_
 refine hK.out _ _ (by exact ⟨vbe.cell 6, p0, p1, p2, p3⟩) ?_
 clear hK K
 try simp only [Act.put]
 refine hPc fun K hK => ?_
 go_simp
 have hcl := valuesBackward_c f t9 m9 Ac cc B cs cj _ (HCk.out _ hnxe) (ntr hB hnxe.size) HOKc.out HLj.out; unfold vA at hcl; refine hcl.mono ?_; rintro e w9 ⟨rfl, hk9⟩; clear hcl; have ba9 := bae.nx hk9; have vb9 := vbe.nx hk9; have hnx9 := hnxe.trans hk9; have hbw9 := hbw; replace hbw := Nat.lt_of_lt_of_le hbw hk9.size; have hbq9 : bb < w.heap.size := Nat.lt_of_lt_of_le hbb hB; replace p0 := (hk9.cell (p := ⟨bb, off + i * 4, none⟩) hbw9).trans p0; replace p1 := (hk9.cell (p := ⟨bb, off + i * 4 + 1, none⟩) hbw9).trans p1; replace p2 := (hk9.cell (p := ⟨bb, off + i * 4 + 2, none⟩) hbw9).trans p2; replace p3 := (hk9.cell (p := ⟨bb, off + i * 4 + 3, none⟩) hbw9).trans p3
 go_wp2_with fail
 refine hK.out _ _ (by exact ⟨vb9.cell 6, p0, p1, p2, p3⟩) ?_
 clear hK K
 try simp only [Act.put, qqA, qqB, qqC]
 refine hPc fun K hK => ?_
 refine wp_store_row _ _ _ rfl gA #[inAt (app pO cj cs) 0, inAt (app pO cj cs) 1, inAt (app pO cj cs) 2, inAt (app pO cj cs) 3, inAt (app pO cj cs) 4, inAt (app pO cj cs) 5, inAt (app pO cj cs) 6, inAt (app pO cj cs) 7] rfl rfl 105 #[inAt cj 0, inAt cj 1, inAt cj 2, inAt cj 3, inAt cj 4, inAt cj 5, inAt cj 6, inAt cj 7] ba9 (by kernel_rfl) rfl (by simp [Value.oneCell', inAt]) ?_
 refine hK.out _ _ (by exact ⟨(vb9.rowfar hneA #[inAt (app pO cj cs) 0, inAt (app pO cj cs) 1, inAt (app pO cj cs) 2, inAt (app pO cj cs) 3, inAt (app pO cj cs) 4, inAt (app pO cj cs) 5, inAt (app pO cj cs) 6, inAt (app pO cj cs) 7]).cell 6, ((cell_row_far w9 gA #[inAt (app pO cj cs) 0, inAt (app pO cj cs) 1, inAt (app pO cj cs) 2, inAt (app pO cj cs) 3, inAt (app pO cj cs) 4, inAt (app pO cj cs) 5, inAt (app pO cj cs) 6, inAt (app pO cj cs) 7] (p := ⟨bb, off + i * 4, none⟩) (by simp; omega)).trans p0), ((cell_row_far w9 gA #[inAt (app pO cj cs) 0, inAt (app pO cj cs) 1, inAt (app pO cj cs) 2, inAt (app pO cj cs) 3, inAt (app pO cj cs) 4, inAt (app pO cj cs) 5, inAt (app pO cj cs) 6, inAt (app pO cj cs) 7] (p := ⟨bb, off + i * 4 + 1, none⟩) (by simp; omega)).trans p1), ((cell_row_far w9 gA #[inAt (app pO cj cs) 0, inAt (app pO cj cs) 1, inAt (app pO cj cs) 2, inAt (app pO cj cs) 3, inAt (app pO cj cs) 4, inAt (app pO cj cs) 5, inAt (app pO cj cs) 6, inAt (app pO cj cs) 7] (p := ⟨bb, off + i * 4 + 2, none⟩) (by simp; omega)).trans p2), ((cell_row_far w9 gA #[inAt (app pO cj cs) 0, inAt (app pO cj cs) 1, inAt (app pO cj cs) 2, inAt (app pO cj cs) 3, inAt (app pO cj cs) 4, inAt (app pO cj cs) 5, inAt (app pO cj cs) 6, inAt (app pO cj cs) 7] (p := ⟨bb, off + i * 4 + 3, none⟩) (by simp; omega)).trans p3)⟩) ?_
 clear hK K
 try simp only [Act.put]
 refine HP.done ?_
 have bz := ba9.row #[inAt (app pO cj cs) 0, inAt (app pO cj cs) 1, inAt (app pO cj cs) 2, inAt (app pO cj cs) 3, inAt (app pO cj cs) 4, inAt (app pO cj cs) 5, inAt (app pO cj cs) 6, inAt (app pO cj cs) 7]
 have vz := vb9.rowfar hneA #[inAt (app pO cj cs) 0, inAt (app pO cj cs) 1, inAt (app pO cj cs) 2, inAt (app pO cj cs) 3, inAt (app pO cj cs) 4, inAt (app pO cj cs) 5, inAt (app pO cj cs) 6, inAt (app pO cj cs) 7]
 have hnxz := hnx9.setRow hgA #[inAt (app pO cj cs) 0, inAt (app pO cj cs) 1, inAt (app pO cj cs) 2, inAt (app pO cj cs) 3, inAt (app pO cj cs) 4, inAt (app pO cj cs) 5, inAt (app pO cj cs) 6, inAt (app pO cj cs) 7]
 generalize w9.setRow gA #[inAt (app pO cj cs) 0, inAt (app pO cj cs) 1, inAt (app pO cj cs) 2, inAt (app pO cj cs) 3, inAt (app pO cj cs) 4, inAt (app pO cj cs) 5, inAt (app pO cj cs) 6, inAt (app pO cj cs) 7] = Wz at *
 go_wp2
 go_roundw
 case rel => exact ⟨i, by omega, rfl, by rw [show a - i = j + 1 by have := Hj.out; omega]; exact HFs'.out, by rw [show a - i = j + 1 by have := Hj.out; omega, Hsuc.out]; exact bz, hnxz, vz⟩
 case measure => (simp [intOf] <;> omega)
theorem vaultRight_c (V : Vl) (B : Nat) (w : World) (h : Vlt w B V) (hB : B ≤ w.heap.size) (hn : VlN V 1048576) (hc : V.xs.length ≤ V.c) (hc3 : V.gs.length ≤ V.c3) (hm : AllM V.ms) :
 Calls Tryz.prog 66 #[V.v] w fun e w' => e = .returned (.bool V.ok) ∧ Nx w w' := by
 have hVW := view_c V B
 have hPL := hasPlaces_c V B
 have hFF := fitsForward_c V B
 have hFB := fitsBack_c V B
 obtain ⟨g, b, p, t, A, c, xs, A2, c2, ms, A3, c3, gs, A4, c4, im⟩ := V
 obtain ⟨h, h2, h3, h4⟩ := h
 obtain ⟨hn, hn2, hn3, hn4, hn5⟩ := hn
 simp only [Vl.v, Vl.cells] at *
 simp only [Vl.w, Vl.wcells] at *
 have HOKv : Hid (Vl.ok ⟨g, b, p, t, A, c, xs, A2, c2, ms, A3, c3, gs, A4, c4, im⟩ = vltB g b p t xs ms gs im) := qh rfl
 rw [HOKv.out]
 have HNo := qh (vltB_no (g := g) (b := b) (p := p) (t := t) (xs := xs) (ms := ms) (gs := gs) (im := im))
 have HYes := qh (fun h => VltY.b (g := g) (b := b) (p := p) (t := t) (xs := xs) (ms := ms) (gs := gs) (im := im) h)
 have HSup := qh (fun (w' : World) (hx : Nx w w') => superRight_c g b p t A A2 c c2 B xs ms w' (h.below hx hB) (h2.below hx hB) (ntr hB hx.size) hn hn2 hc hm)
 have HCon := qh (fun (w' : World) (hx : Nx w w') => implContentOK_c A4 c4 B im w' (h4.below hx hB) (ntr hB hx.size) hn5)
 have HCha := qh (fun (w' : World) (hx : Nx w w') => implChainOK_c b A3 c3 B gs w' (h3.below hx hB) (ntr hB hx.size) hn3 hn4)
 have HVW := qh (fun (w' : World) (hx : Nx w w') (h8 : im.length = 8) => hVW w' (h4.below hx hB) (ntr hB hx.size) h8)
 have HPL := qh (fun (w' : World) (hx : Nx w w') (hN : gs.length ≤ 4096) => hPL w' (h3.below hx hB) (h2.below hx hB) (ntr hB hx.size) hN hn2)
 have HFF := qh (fun (w' : World) (hx : Nx w w') (hl : Lead b gs) (h8 : im.length = 8) (hp : plcB b p t gs ms = true) => hFF w' (h3.below hx hB) (ntr hB hx.size) hl hc3 h8 hp)
 have HFB := qh (fun (w' : World) (hx : Nx w w') (hl : Lead b gs) (h8 : im.length = 8) (hp : plcB b p t gs ms = true) => hFB w' (h3.below hx hB) (ntr hB hx.size) hl h8 hp)
 clear hVW hPL hFF hFB
 obtain ⟨n, Hn⟩ : ∃ n, Hid (gs.length = n) := ⟨_, rfl⟩
 obtain ⟨q, Hq⟩ : ∃ q, Hid (im.length = q) := ⟨_, rfl⟩
 obtain ⟨r, Hr⟩ : ∃ r, Hid (ms.length = r) := ⟨_, rfl⟩
 obtain ⟨z, Hz⟩ : ∃ z, Hid (xs.length = z) := ⟨_, rfl⟩
 rw [Hz.out, Hr.out] at HSup
 rw [Hq.out] at HCon
 rw [Hn.out] at HCha hn3
 rw [Hn.out, Hq.out, Hr.out, Hz.out] at HVW
 rw [Hn.out, Hr.out, Hz.out] at HPL
 rw [Hn.out, Hq.out, Hr.out, Hz.out] at HFF HFB
 rw [Hr.out] at hn2
 rw [Hz.out] at hn
 rw [Hq.out] at hn5
 rw [Hn.out, Hq.out, Hr.out, Hz.out]
 have b0 := Box.new w 49 #[ii g, ii b, ii p, ii t, .slice A z c, .slice A2 r c2, .slice A3 n c3, .slice A4 q c4]
 have hx0 := (Nx.refl w).alloc (.cells #[ii g, ii b, ii p, ii t, .slice A z c, .slice A2 r c2, .slice A3 n c3, .slice A4 q c4] 49)
 clear h h2 h3 h4 hn4 hc hm hc3
 go_enter Tryz.func66, Tryz.ntmps66
 go_wp2_with fail
 generalize w.alloc (.cells #[ii g, ii b, ii p, ii t, .slice A z c, .slice A2 r c2, .slice A3 n c3, .slice A4 q c4] 49) = W at *
 refine (HSup.out W hx0).mono ?_
 rintro e w1 ⟨rfl, hk⟩
 have b1 := b0.nx hk
 have hx := hx0.trans hk
 clear hx0 b0 hk
 cases h1 : superB g b p t xs ms with
 | false =>
   have HR := qh (HNo.out (.inl h1))
   clear h1
   go_wp2
   go_ret
   exact ⟨ret_bool HR.out.symm, hx⟩
 | true =>
 have H1 := qh h1
 clear h1
 obtain ⟨y0, y1, y2, y3, y4, y5, y6, y7⟩ := b1.e8
 go_wp2_with fail
 refine (HCon.out _ hx).mono ?_
 clear y0 y1 y2 y3 y4 y5 y6 y7
 rintro e w2 ⟨rfl, hk⟩
 have b2 := b1.nx hk
 replace hx := hx.trans hk
 clear b1 hk
 cases h2 : contB im with
 | false =>
   have HR := qh (HNo.out (.inr (.inl h2)))
   clear h2
   go_wp2
   go_ret
   exact ⟨ret_bool HR.out.symm, hx⟩
 | true =>
 have H2 := qh h2
 clear h2
 obtain ⟨y0, y1, y2, y3, y4, y5, y6, y7⟩ := b2.e8
 by_cases hle : n = z
 case neg =>
  have hd : ((n : Int) != (z : Int)) = true := by simp; omega
  have HR := qh (HNo.out (.inr (.inr (.inl (by rw [Hn.out, Hz.out]; exact hle)))))
  clear hle
  go_wp2
  go_ret
  exact ⟨ret_bool HR.out.symm, hx⟩
 have hd : ((n : Int) != (z : Int)) = false := by simp; omega
 have H4 := qh hle
 clear hle
 go_wp2_with fail
 refine (HCha.out _ hx).mono ?_
 clear y0 y1 y2 y3 y4 y5 y6 y7 hd
 rintro e w3 ⟨rfl, hk⟩
 have b3 := b2.nx hk
 replace hx := hx.trans hk
 clear b2 hk
 cases h3 : chainB b gs with
 | false =>
   have HR := qh (HNo.out (.inr (.inr (.inr (.inl h3)))))
   clear h3
   go_wp2
   go_ret
   exact ⟨ret_bool HR.out.symm, hx⟩
 | true =>
 have H3 := qh h3
 clear h3
 have HLd := qh (chainB_lead H3.out)
 have hn4 : n ≤ 4096 := by have := HLd.out.short; rw [Hn.out] at this; exact this
 have H8 : Hid (q = 8) := qh (by rw [← Hq.out]; exact (contB_yes H2.out).1)
 obtain rfl : q = 8 := H8.out
 obtain ⟨y0, y1, y2, y3, y4, y5, y6, y7⟩ := b3.e8
 go_wp2_with fail
 refine (HVW.out _ hx (by trivial)).mono ?_
 clear y0 y1 y2 y3 y4 y5 y6 y7
 rintro e w4 ⟨rfl, hk⟩
 have b4 := b3.nx hk
 replace hx := hx.trans hk
 clear b3 hk
 have rz := Box.new w4 107 #[ii 0, ii 0, ii 0, ii 0, nsl, nsl, nsl, ii 0, ii 0, ii 0, ii 0, ii 0, ii 0, ii 0, ii 0]
 have bv := rz.row #[ii g, ii b, ii p, ii t, .slice A z c, .slice A2 r c2, .slice A3 n c3, inAt im 0, inAt im 1, inAt im 2, inAt im 3, inAt im 4, inAt im 5, inAt im 6, inAt im 7]
 have hx5 := (hx.alloc (.cells #[ii 0, ii 0, ii 0, ii 0, nsl, nsl, nsl, ii 0, ii 0, ii 0, ii 0, ii 0, ii 0, ii 0, ii 0] 107)).setRow (g := w4.heap.size) hx.size #[ii g, ii b, ii p, ii t, .slice A z c, .slice A2 r c2, .slice A3 n c3, inAt im 0, inAt im 1, inAt im 2, inAt im 3, inAt im 4, inAt im 5, inAt im 6, inAt im 7]
 obtain ⟨y0, y1, y2, y3, y4, y5, y6, y7, y8, y9, y10, y11, y12, y13, y14⟩ := bv.e15
 go_wp2_with (refine wpList_store_row rfl _ _ _ rfl w4.heap.size #[ii g, ii b, ii p, ii t, .slice A z c, .slice A2 r c2, .slice A3 n c3, inAt im 0, inAt im 1, inAt im 2, inAt im 3, inAt im 4, inAt im 5, inAt im 6, inAt im 7] rfl rfl 107 #[ii 0, ii 0, ii 0, ii 0, nsl, nsl, nsl, ii 0, ii 0, ii 0, ii 0, ii 0, ii 0, ii 0, ii 0] rz (by kernel_rfl) rfl (by simp [Value.oneCell', inAt]) ?_)
 clear y0 y1 y2 y3 y4 y5 y6 y7 y8 y9 y10 y11 y12 y13 y14 rz hx
 generalize (w4.alloc (.cells #[ii 0, ii 0, ii 0, ii 0, nsl, nsl, nsl, ii 0, ii 0, ii 0, ii 0, ii 0, ii 0, ii 0, ii 0] 107)).setRow w4.heap.size #[ii g, ii b, ii p, ii t, .slice A z c, .slice A2 r c2, .slice A3 n c3, inAt im 0, inAt im 1, inAt im 2, inAt im 3, inAt im 4, inAt im 5, inAt im 6, inAt im 7] = W5 at *
 generalize w4.heap.size = gV at *
 refine (HPL.out _ hx5 hn4).mono ?_
 rintro e w6 ⟨rfl, hk⟩
 have bv6 := bv.nx hk
 have hx6 := hx5.trans hk
 clear bv hx5 hk
 cases h5 : plcB b p t gs ms with
 | false =>
   have HR := qh (HNo.out (.inr (.inr (.inr (.inr (.inl h5))))))
   clear h5
   go_wp2
   go_ret
   exact ⟨ret_bool HR.out.symm, hx6⟩
 | true =>
 have H5 := qh h5
 clear h5
 obtain ⟨y0, y1, y2, y3, y4, y5, y6, y7, y8, y9, y10, y11, y12, y13, y14⟩ := bv6.e15
 go_wp2_with fail
 clear y0 y1 y2 y3 y4 y5 y6 y7 y8 y9 y10 y11 y12 y13 y14
 refine (HFF.out _ hx6 HLd.out (by trivial) H5.out).mono ?_
 rintro e w7 ⟨rfl, hk⟩
 have bv7 := bv6.nx hk
 have hx7 := hx6.trans hk
 clear bv6 hx6 hk
 cases h6 : fitF (stp b p t gs im).1 gs (stp b p t gs im).2 with
 | false =>
   have HR := qh (HNo.out (.inr (.inr (.inr (.inr (.inr (.inl h6)))))))
   clear h6
   go_wp2
   go_ret
   exact ⟨ret_bool HR.out.symm, hx7⟩
 | true =>
 have H6 := qh h6
 clear h6
 obtain ⟨y0, y1, y2, y3, y4, y5, y6, y7, y8, y9, y10, y11, y12, y13, y14⟩ := bv7.e15
 go_wp2_with fail
 clear y0 y1 y2 y3 y4 y5 y6 y7 y8 y9 y10 y11 y12 y13 y14
 refine (HFB.out _ hx7 HLd.out (by trivial) H5.out).mono ?_
 rintro e w8 ⟨rfl, hk⟩
 have hx8 := hx7.trans hk
 clear hx7 hk
 cases h7 : fitB (stp b p t gs im).1 gs (stp b p t gs im).2 with
 | false =>
   have HR := qh (HNo.out (.inr (.inr (.inr (.inr (.inr (.inr h7)))))))
   clear h7
   go_wp2
   go_ret
   exact ⟨ret_bool HR.out.symm, hx8⟩
 | true =>
   have HR := qh (HYes.out ⟨H1.out, H2.out, by rw [Hn.out, Hz.out]; exact H4.out, H3.out, H5.out, H6.out, h7⟩)
   clear h7
   go_wp2
   go_ret
   exact ⟨ret_bool HR.out.symm, hx8⟩
theorem Vl.y {V : Vl} (h : V.ok = true) : VltY V.g V.b V.p V.t V.xs V.ms V.gs V.im := vltB_yes h
theorem VltY.ahd {g b p t : Int} {xs : List Int} {ms : List Mrk} {gs : List SgR} {im : List Int} (h : VltY g b p t xs ms gs im) : isRet b gs p = true ∧ (p < t → ahd b gs p < gs.length) ∧ (t < p → 0 < ahd b gs p) :=
 ⟨by have := h.places; unfold plcB at this; simp only [Bool.and_eq_true] at this; exact this.1.2, (stp_le (t := t) im (chainB_lead h.chain) h.places).2⟩
theorem VltY.l8 {g b p t : Int} {xs : List Int} {ms : List Mrk} {gs : List SgR} {im : List Int} (h : VltY g b p t xs ms gs im) : im.length = 8 := (contB_yes h.cont).1
theorem VltY.n4 {g b p t : Int} {xs : List Int} {ms : List Mrk} {gs : List SgR} {im : List Int} (h : VltY g b p t xs ms gs im) : gs.length ≤ 4096 := (chainB_lead h.chain).short
theorem l05Tip_c (V : Vl) (B : Nat) (w : World) (h : Vlt w B V) (hB : B ≤ w.heap.size) (hn : VlN V 1048576) :
 Calls Tryz.prog 159 #[V.v] w fun e w' => e = .returned (ii (tipV V.b V.gs)) ∧ Nx w w' := by
 have hR := l05Retained_c V B
 obtain ⟨g, b, p, t, A, c, xs, A2, c2, ms, A3, c3, gs, A4, c4, im⟩ := V
 simp only [Vl.v, Vl.cells] at *
 have hx0 := (Nx.refl w).alloc (.cells #[ii g, ii b, ii p, ii t, .slice A xs.length c, .slice A2 ms.length c2, .slice A3 gs.length c3, .slice A4 im.length c4] 49)
 have HR := qh hR
 have h9 := hn.gs
 have hn0 : gs.length ≤ 1048576 := h9
 clear hR h9
 go_enter Tryz.func159, Tryz.ntmps159
 go_wp2_with fail
 generalize w.alloc (.cells #[ii g, ii b, ii p, ii t, .slice A xs.length c, .slice A2 ms.length c2, .slice A3 gs.length c3, .slice A4 im.length c4] 49) = W at *
 refine (HR.out W (h.below hx0 hB) (ntr hB hx0.size) hn).mono ?_
 rintro e w1 ⟨A9, c9, rfl, _, hS, hx1⟩
 have hI : Ins w1 w1.heap.size A9 (retL b gs) := hS.row
 have Hl := qh (retL_len b gs)
 have HT := qh (retL_at b gs gs.length nle)
 obtain ⟨bb, off, rfl, _, q0⟩ := hI.at_ (k := gs.length) (by rw [Hl.out]; omega)
 obtain ⟨m, Hm⟩ : ∃ m, Hid (gs.length = m) := ⟨_, rfl⟩
 rw [Hm.out] at Hl HT hn0 q0
 rw [HT.out] at q0
 rw [Hl.out]
 obtain ⟨T, HTv⟩ : ∃ T, Hid (atK b gs m = T) := ⟨_, rfl⟩
 rw [HTv.out] at q0
 have HR2 : Hid (tipV b gs = T) := qh (by unfold tipV; rw [Hm.out]; exact HTv.out)
 have hw1 : IntKind.i64.wrap (m : Int) = (m : Int) := IntWalk.i64_in _ (by omega)
 have hm1 : (m : Int) < (m : Int) + 1 := by omega
 have hx := hx0.trans hx1
 clear HR h hn hS hI hx0 hx1
 go_wp2
 go_ret
 exact ⟨ret_int HR2.out.symm, hx⟩
theorem tip_c (V : Vl) (B : Nat) (w : World) (h : Sgs w B V.A3 V.gs) (hB : B ≤ w.heap.size) (hn : V.gs.length ≤ 1048576) :
 Calls Tryz.prog 68 #[V.w] w fun e w' => e = .returned (ii (tipV V.b V.gs)) ∧ Nx w w' := by
 obtain ⟨g, b, p, t, A, c, xs, A2, c2, ms, A3, c3, gs, A4, c4, im⟩ := V
 simp only [Vl.w, Vl.wcells] at *
 have HSg := qh (fun (k : Nat) (hk : k < gs.length) (w' : World) (hx : Nx w w') => (h.below hx hB).row.at4 hk)
 have HTv : Hid (tipV b gs = atK b gs gs.length) := qh rfl
 obtain ⟨m, Hm⟩ : ∃ m, Hid (gs.length = m) := ⟨_, rfl⟩
 rw [Hm.out] at HSg HTv hn ⊢
 have hx0 := (Nx.refl w).alloc (.cells #[ii g, ii b, ii p, ii t, .slice A xs.length c, .slice A2 ms.length c2, .slice A3 m c3, inAt im 0, inAt im 1, inAt im 2, inAt im 3, inAt im 4, inAt im 5, inAt im 6, inAt im 7] 107)
 clear h
 rw [HTv.out]
 by_cases h0 : m = 0
 · have hd : ((m : Int) == 0) = true := by simp; omega
   have HZ := qh (show atK b gs m = b by rw [h0]; rfl)
   rw [HZ.out]
   clear h0
   go_enter Tryz.func68, Tryz.ntmps68
   go_wp2
   go_ret
   exact ⟨rfl, hx0⟩
 obtain ⟨k, rfl⟩ : ∃ k, m = k + 1 := ⟨m - 1, by omega⟩
 have hd : (((k + 1 : Nat) : Int) == 0) = false := by simp; omega
 obtain ⟨bb, off, rfl, hbb, _, p1, _, _⟩ := HSg.out k (by omega) _ hx0
 have Hk : Hid (atK b gs (k + 1) = (gs.getD k sgZ).t) := qh rfl
 obtain ⟨s, Hs⟩ : ∃ s, Hid (gs.getD k sgZ = s) := ⟨_, rfl⟩
 rw [Hs.out] at p1 Hk
 rw [Hk.out]
 obtain ⟨f, t9, m9, Ac, cc, cs⟩ := s
 simp only at p1 ⊢
 have hk0 : (0 : Int) ≤ (k : Int) := by omega
 have hk1 : (k : Int) < (k : Int) + 1 := by omega
 have hwk : IntKind.i64.wrap (k : Int) = (k : Int) := IntWalk.i64_in _ (by omega)
 have hd' : ((k : Int) + 1 == 0) = false := by simp; omega
 have hbd := Box.new w 107 #[ii g, ii b, ii p, ii t, .slice A xs.length c, .slice A2 ms.length c2, .slice (some ⟨bb, off, none⟩) (k + 1) c3, inAt im 0, inAt im 1, inAt im 2, inAt im 3, inAt im 4, inAt im 5, inAt im 6, inAt im 7]
 obtain ⟨_, y1, _, _, _, _, y6, _, _, _, _, _, _, _, _⟩ := hbd.e15
 go_enter Tryz.func68, Tryz.ntmps68
 go_wp2
 go_ret
 exact ⟨rfl, hx0⟩

theorem getD_setB (ss : List BA) (a i : Nat) (s : BA) (ha : a < ss.length) : (ss.set a s).getD i ByteArray.empty = if i = a then s else ss.getD i ByteArray.empty := by
 rw [gdE, List.getElem?_set]
 by_cases h : a = i
 · subst h; rw [if_pos rfl, if_pos rfl, if_pos ha]; rfl
 · rw [if_neg h, if_neg (fun e => h e.symm), ← gdE]
theorem readP_nil (ss : List BA) (a : Nat) : readP ss [] a = ss.getD a ByteArray.empty := rfl
theorem segT_size (V : Vl) (p v t : Int) (n : Nat) : (segT (newG V p n v t)).size ≤ 300 := by
 unfold segT
 rw [sealS_size, numsS_size, segN_len]
 show (3 + 3 * 1) * 6 + 3 ≤ 300
 omega
theorem supT_size {g b p t : Int} {xs : List Int} {ms : List Mrk} (h : superB (g + 1) b p t xs ms = true) : (supT (g + 1) b p t xs ms).size ≤ 300 :=
 nxt_size (u := (g, b, p, t, xs, ms)) h
theorem set_all {ss : List BA} {a : Nat} {s : BA} (h : ss.all sOk = true) (hs : s.size ≤ 300) : (ss.set a s).all sOk = true := List.all_eq_true.2 fun x hx => by
 rcases List.mem_or_eq_of_mem_set hx with h1 | rfl
 · exact List.all_eq_true.1 h x h1
 · exact decide_eq_true hs
theorem diskB_nil {ss : List BA} (h1 : ss.length = 64) (h2 : ss.all sOk = true) : diskB ss [] = true := by
 unfold diskB; rw [h1, h2]; rfl
def apS (ss : List BA) (V : Vl) (p : Int) (n : Nat) (v t : Int) : List BA := ss.set (freeS V.xs).toNat (segT (newG V p n v t))
def apU (V : Vl) : BA := supT (V.g + 1) V.b V.p V.t (V.xs ++ [freeS V.xs]) V.ms
structure Asked (ss : List BA) (V : Vl) (p : Int) (n : Nat) (v t : Int) : Prop where
 disk : diskB ss [] = true
 ld : LdY ss [] V
 frame : frameB p (n : Int) v t = true
 next : p = V.tip + 1
 room : V.gs.length ≠ 20
 gen : V.g ≠ 999999
section
variable {ss : List BA} {V : Vl} {p v t : Int} {n : Nat}
theorem Asked.len (h : Asked ss V p n v t) : V.gs.length < 20 ∧ V.xs.length = V.gs.length := by
 have h1 := h.ld.ok.len
 have h2 := (tbB_yes (superB_yes h.ld.ok.super).2.2.2.2.1).1
 have := h.room
 exact ⟨by omega, h1.symm⟩
theorem Asked.y (h : Asked ss V p n v t) : VltY (V.g + 1) V.b V.p V.t (V.xs ++ [freeS V.xs]) V.ms (V.gs ++ [newG V p n v t]) V.im := ext_y h.ld.ok (newG_nxt h.ld.ok h.frame h.next) h.gen h.len.1
theorem Asked.free (h : Asked ss V p n v t) : ∃ a : Nat, freeS V.xs = (a : Int) ∧ 10 ≤ a ∧ a ≤ 63 := by
 obtain ⟨f1, f2, _⟩ := free_ok (xs := V.xs) (by have := h.len; omega)
 exact ⟨(freeS V.xs).toNat, by omega, by omega, by omega⟩
theorem Asked.diskS (h : Asked ss V p n v t) : diskB (apS ss V p n v t) [] = true :=
 diskB_nil (by unfold apS; rw [List.length_set]; exact (diskB_len64 h.disk).1) (set_all (diskB_len64 h.disk).2.2.1 (segT_size V p v t n))
theorem Asked.slot (h : Asked ss V p n v t) : ∃ o : Nat, 1 - sltV ss [] = (o : Int) ∧ o ≤ 1 := by
 rcases h.ld.slot with e | e
 · exact ⟨1, by omega, by omega⟩
 · exact ⟨0, by omega, by omega⟩
theorem Asked.disk1 (h : Asked ss V p n v t) : diskB (apS ss V p n v t) [(1 - sltV ss [], apU V)] = true := by
 obtain ⟨o, eo, ho⟩ := h.slot
 have h1 := diskB_len64 h.diskS
 unfold diskB
 rw [h1.1, h1.2.2.1, eo]
 have : wOk ((o : Int), apU V) = true := by
  unfold wOk secB sOk
  rw [decide_eq_true (show (0 : Int) ≤ (o : Int) by omega), decide_eq_true (show (o : Int) ≤ 63 by omega), decide_eq_true (show (((o : Int), apU V) : Int × BA).2.size ≤ 300 from supT_size h.y.super)]; rfl
 simp [this]
theorem Asked.readS (h : Asked ss V p n v t) (a : Nat) : readP (apS ss V p n v t) [] a = if a = (freeS V.xs).toNat then segT (newG V p n v t) else readP ss [] a := by
 obtain ⟨f, ef, h1, h2⟩ := h.free
 rw [readP_nil, readP_nil]
 unfold apS
 rw [getD_setB _ _ _ _ (by rw [(diskB_len64 h.disk).1, ef]; omega)]
theorem Asked.readF (h : Asked ss V p n v t) (a : Nat) : readP ((apS ss V p n v t).set (1 - sltV ss []).toNat (apU V)) [] a = if a = (1 - sltV ss []).toNat then apU V else readP (apS ss V p n v t) [] a := by
 obtain ⟨o, eo, ho⟩ := h.slot
 rw [readP_nil, readP_nil, getD_setB _ _ _ _ (by rw [(diskB_len64 h.diskS).1, eo]; omega)]
theorem newU_at {o0 o1 : Option U6} {u : U6} {s : Int} (h : newU o0 o1 = some (u, s)) : (s = 0 ∧ o0 = some u) ∨ (s = 1 ∧ o1 = some u) := by
 unfold newU at h
 split at h
 · split at h <;> cases h
   · exact .inr ⟨rfl, rfl⟩
   · exact .inl ⟨rfl, rfl⟩
 · cases h; exact .inl ⟨rfl, rfl⟩
 · cases h; exact .inr ⟨rfl, rfl⟩
 · cases h
theorem Asked.new (h : Asked ss V p n v t) : newU (rdU (readP ((apS ss V p n v t).set (1 - sltV ss []).toNat (apU V)) [] 0)) (rdU (readP ((apS ss V p n v t).set (1 - sltV ss []).toNat (apU V)) [] 1)) = some ((V.g + 1, V.b, V.p, V.t, V.xs ++ [freeS V.xs], V.ms), 1 - sltV ss []) := by
 obtain ⟨f, ef, f1, f2⟩ := h.free
 have hb := rdU_back h.y.super
 rw [h.readF 0, h.readF 1, h.readS 0, h.readS 1, if_neg (show ¬ 0 = (freeS V.xs).toNat by omega), if_neg (show ¬ 1 = (freeS V.xs).toNat by omega)]
 rcases newU_at h.ld.nu with ⟨hs, hr⟩ | ⟨hs, hr⟩
 · rw [hs, if_neg (by decide), if_pos (by decide), hr]
   show newU _ (rdU (apU V)) = _
   unfold apU
   rw [hb]
   show (if V.g < V.g + 1 then _ else _) = _
   rw [if_pos (by omega)]; rfl
 · rw [hs, if_pos (by decide), if_neg (by decide), hr]
   show newU (rdU (apU V)) _ = _
   unfold apU
   rw [hb]
   show (if V.g + 1 < V.g then _ else _) = _
   rw [if_neg (by omega)]; rfl
theorem Asked.sec (h : Asked ss V p n v t) {a : Nat} (h1 : 2 ≤ a) (h2 : a ≠ (freeS V.xs).toNat) : readP ((apS ss V p n v t).set (1 - sltV ss []).toNat (apU V)) [] a = readP ss [] a := by
 obtain ⟨o, eo, ho⟩ := h.slot
 rw [h.readF, if_neg (by rw [eo]; omega), h.readS, if_neg h2]
theorem Asked.seg (h : Asked ss V p n v t) : ldG ((apS ss V p n v t).set (1 - sltV ss []).toNat (apU V)) [] (freeS V.xs) = some ((p - 1).toNat, p.toNat, (lastM V.gs t).toNat, [((n : Int), v, V.top.getD n 0)]) := by
 obtain ⟨o, eo, ho⟩ := h.slot
 obtain ⟨f, ef, f1, f2⟩ := h.free
 have hx := newG_nxt h.ld.ok h.frame h.next
 have hs : segB (p - 1) p (lastM V.gs t) [((n : Int), v, V.top.getD n 0)] = true := hx.seg
 obtain ⟨s0, s1, s2, s3, s4⟩ := segB_yes hs
 unfold ldG
 rw [h.readF, if_neg (by rw [eo, ef]; omega), h.readS, if_pos rfl]
 have e0 : (((p - 1).toNat : Nat) : Int) = p - 1 := Int.toNat_of_nonneg (by omega)
 have e1 : ((p.toNat : Nat) : Int) = p := Int.toNat_of_nonneg (by omega)
 have e2 : (((lastM V.gs t).toNat : Nat) : Int) = lastM V.gs t := Int.toNat_of_nonneg (by omega)
 have hs2 : segB (((p - 1).toNat : Nat) : Int) ((p.toNat : Nat) : Int) (((lastM V.gs t).toNat : Nat) : Int) [((n : Int), v, V.top.getD n 0)] = true := by rw [e0, e1, e2]; exact hs
 have hb := rdG_back hs2
 rw [← hb]
 unfold segS segT newG
 rw [if_pos hs2, e0, e1, e2]
theorem Asked.img (h : Asked ss V p n v t) {j : Nat} (hj : j < 8) : ldI ((apS ss V p n v t).set (1 - sltV ss []).toNat (apU V)) [] j = ldI ss [] j := by
 obtain ⟨f, ef, f1, f2⟩ := h.free
 unfold ldI
 rw [h.sec (by omega) (by rw [ef]; omega)]
theorem Asked.keep (h : Asked ss V p n v t) : LdY (apS ss V p n v t) [] V := by
 obtain ⟨f, ef, f1, f2⟩ := h.free
 obtain ⟨_, _, f3⟩ := free_ok (xs := V.xs) (by have := h.len; omega)
 have hsec : ∀ a, a ≠ (freeS V.xs).toNat → readP (apS ss V p n v t) [] a = readP ss [] a := fun a ha => by rw [h.readS, if_neg ha]
 have hn : newU (rdU (readP (apS ss V p n v t) [] 0)) (rdU (readP (apS ss V p n v t) [] 1)) = newU (rdU (readP ss [] 0)) (rdU (readP ss [] 1)) := by
  rw [hsec 0 (by rw [ef]; omega), hsec 1 (by rw [ef]; omega)]
 have hs : sltV (apS ss V p n v t) [] = sltV ss [] := by unfold sltV; rw [hn]
 have hg : ∀ x ∈ V.xs, ldG (apS ss V p n v t) [] x = ldG ss [] x := fun x hx => by
  have h1 := tbB_in (superB_yes h.ld.ok.super).2.2.2.2.1 hx
  unfold ldG
  rw [hsec _ (fun e => f3 (by have : freeS V.xs = x := by omega
                              rw [this]; exact hx))]
 have hi : ∀ j, j < 8 → ldI (apS ss V p n v t) [] j = ldI ss [] j := fun j hj => by unfold ldI; rw [hsec _ (by rw [ef]; omega)]
 have hrd := h.ld.rd
 unfold ldOk at hrd
 rw [Bool.and_eq_true] at hrd
 refine ⟨by rw [hn, hs]; exact h.ld.nu, by rw [hs]; exact h.ld.slot, h.ld.ok, ?_, ?_⟩
 · unfold ldOk
   rw [Bool.and_eq_true]
   exact ⟨List.all_eq_true.2 fun x hx => by rw [hg x hx]; exact List.all_eq_true.1 hrd.1 x hx, List.all_eq_true.2 fun j hj => by rw [hi j (by simpa using hj)]; exact List.all_eq_true.1 hrd.2 j hj⟩
 · have e1 : V.xs.map (ldS (apS ss V p n v t) []) = V.xs.map (ldS ss []) := List.map_congr_left fun x hx => by unfold ldS; rw [hg x hx]
   have e2 : (List.range 8).map (ldX (apS ss V p n v t) []) = (List.range 8).map (ldX ss []) := List.map_congr_left fun j hj => by unfold ldX; rw [hi j (by simpa using hj)]
   refine h.ld.eq.trans ?_
   unfold ldW vlU
   simp only
   rw [e1, e2]
theorem Asked.keepS (h : Asked ss V p n v t) : sltV (apS ss V p n v t) [] = sltV ss [] := by
 obtain ⟨f, ef, f1, f2⟩ := h.free
 unfold sltV
 rw [h.readS, h.readS, if_neg (by rw [ef]; omega), if_neg (by rw [ef]; omega)]
end
section
variable {gs hs : List SgR} (hv : gs.map SgR.v = hs.map SgR.v)
include hv
theorem retL_v (b : Int) : retL b gs = retL b hs := by
 have : gs.map SgR.t = hs.map SgR.t := by
  have := congrArg (List.map (fun q : Sg4 => q.2.1)) hv
  rw [List.map_map, List.map_map] at this
  exact this
 unfold retL; rw [this]
theorem isRet_v (b n : Int) : isRet b gs n = isRet b hs n := by unfold isRet; rw [retL_v hv, v_len hv]
theorem ahd_v (b n : Int) : ahd b gs n = ahd b hs n := by unfold ahd; rw [retL_v hv]
theorem stp_v (b p t : Int) (im : List Int) : stp b p t gs im = stp b p t hs im := by
 unfold stp
 rw [ahd_v hv, (v_parts hv (ahd b hs p)).2.2.2, (v_parts hv (ahd b hs p - 1)).2.2.2]
theorem fwK_v (c : List Int) (a : Nat) : ∀ j, fwK c gs a j = fwK c hs a j
 | 0 => rfl
 | j + 1 => by show app pN _ _ = app pN _ _; rw [fwK_v c a j, (v_parts hv (a + j)).2.2.2]
theorem bkK_v (c : List Int) (a : Nat) : ∀ j, bkK c gs a j = bkK c hs a j
 | 0 => rfl
 | j + 1 => by show app pO _ _ = app pO _ _; rw [bkK_v c a j, (v_parts hv (a - 1 - j)).2.2.2]
theorem fitF_v (c : List Int) (a : Nat) : fitF c gs a = fitF c hs a := by
 unfold fitF
 rw [v_len hv]
 congr 1
 funext j
 unfold oldB
 rw [fwK_v hv, (v_parts hv (a + j)).2.2.2]
theorem fitB_v (c : List Int) (a : Nat) : fitB c gs a = fitB c hs a := by
 unfold fitB
 congr 1
 funext j
 unfold newB
 rw [bkK_v hv, (v_parts hv (a - 1 - j)).2.2.2]
theorem plcB_v (b p t : Int) (ms : List Mrk) : plcB b p t gs ms = plcB b p t hs ms := by
 unfold plcB mksR
 rw [isRet_v hv, isRet_v hv]
 congr 2
 congr 1
 funext k
 exact isRet_v hv b _
theorem vltB_v (g b p t : Int) (xs : List Int) (ms : List Mrk) (im : List Int) : vltB g b p t xs ms gs im = vltB g b p t xs ms hs im := by
 unfold vltB
 rw [v_len hv, chainB_v hv, plcB_v hv, stp_v hv, fitF_v hv, fitB_v hv]
theorem cntV_v (b p t : Int) (im : List Int) (n : Int) : cntV b p t gs im n = cntV b p t hs im n := by
 unfold cntV
 rw [stp_v hv, ahd_v hv, fwK_v hv, bkK_v hv]
theorem tipV_v (b : Int) : tipV b gs = tipV b hs := by unfold tipV; rw [v_len hv, atK_v hv]
end
theorem VlS.ok {V V' : Vl} (h : VlS V V') : V.ok = V'.ok := by
 unfold Vl.ok
 rw [h.g, h.b, h.p, h.t, h.xs, h.ms, h.im, vltB_v h.gs]
theorem settle_put (ss : List BA) (x : Int) (s : BA) : settleTo kpAll ss ([] ++ [(x, s)]) 1 = ss.set x.toNat s := rfl
theorem readP_put {ss : List BA} {x : Int} {s : BA} {a : Nat} (h : x ≠ (a : Int)) : readP ss ([] ++ [(x, s)]) a = readP ss [] a := by
 have e : (x == (a : Int)) = false := beq_eq_false_iff_ne.2 h
 unfold readP
 simp [findLast, e]
theorem freeTo_some {xs : List Int} (h : xs.length ≤ 20) : 0 < (freeTo xs 54).length := by
 have h1 := (free_ok h).1
 rcases Nat.eq_zero_or_pos (freeTo xs 54).length with h0 | h0
 · have : freeS xs = 0 := by unfold freeS; rw [List.length_eq_zero_iff.1 h0]; rfl
   omega
 · exact h0
section
variable {ss : List BA} {V : Vl} {p v t : Int} {n : Nat}
theorem LdY.room (h : LdY ss [] V) (h20 : V.gs.length ≠ 20) : V.gs.length < 20 ∧ V.xs.length < 20 ∧ 10 ≤ freeS V.xs ∧ freeS V.xs ≤ 63 ∧ freeS V.xs ∉ V.xs := by
 have h1 := h.ok.len
 have h2 := (tbB_yes (superB_yes h.ok.super).2.2.2.2.1).1
 have h3 := free_ok (xs := V.xs) h2
 exact ⟨by omega, by omega, h3⟩
theorem LdY.table (h : LdY ss [] V) (h20 : V.gs.length ≠ 20) : superB V.g V.b V.p V.t (V.xs ++ [freeS V.xs]) V.ms = true := by
 obtain ⟨s0, s1, s2, s3, s4, s5⟩ := superB_yes h.ok.super
 obtain ⟨_, f0, f1, f2, f3⟩ := h.room h20
 exact superB_mk (inB_mk s0.1 s0.2) (inB_mk s1.1 s1.2) (inB_mk s2.1 s2.2) (inB_mk s3.1 s3.2) (tb_snoc s4 (by omega) ⟨f1, f2⟩ f3) s5
theorem LdY.put (h : LdY ss [] V) (hd : diskB ss [] = true) (h20 : V.gs.length ≠ 20) : diskB ss ([] ++ [(freeS V.xs, segT (newG V p n v t))]) = true := by
 obtain ⟨_, f0, f1, f2, f3⟩ := h.room h20
 have h1 := diskB_len64 hd
 have hs := segT_size V p v t n
 have hw : wOk (freeS V.xs, segT (newG V p n v t)) = true := by
  unfold wOk secB sOk
  simp only [Bool.and_eq_true, decide_eq_true_eq]
  exact ⟨⟨by omega, by omega⟩, hs⟩
 unfold diskB
 rw [h1.1, h1.2.2.1]
 simp [hw]
theorem LdY.newest (h : LdY ss [] V) (h20 : V.gs.length ≠ 20) (s : BA) : newU (rdU (readP ss ([] ++ [(freeS V.xs, s)]) 0)) (rdU (readP ss ([] ++ [(freeS V.xs, s)]) 1)) = some ((V.g, V.b, V.p, V.t, V.xs, V.ms), sltV ss []) := by
 obtain ⟨_, f0, f1, f2, f3⟩ := h.room h20
 rw [readP_put (by omega), readP_put (by omega)]
 exact h.nu
end
theorem VltY.tipIn {g b p t : Int} {xs : List Int} {ms : List Mrk} {gs : List SgR} {im : List Int} (h : VltY g b p t xs ms gs im) : 0 ≤ tipV b gs ∧ tipV b gs ≤ 999999 := by
 have hl := chainB_lead h.chain
 have h1 := (superB_yes h.super).2.1
 unfold tipV
 rcases Nat.eq_zero_or_pos gs.length with h0 | h0
 · rw [h0]; exact h1
 · obtain ⟨k, hk⟩ : ∃ k, gs.length = k + 1 := ⟨gs.length - 1, by omega⟩
   rw [hk]
   exact (segB_yes (hl.seg k (by omega))).2.1
theorem lastM_v {gs hs : List SgR} (hv : gs.map SgR.v = hs.map SgR.v) (t : Int) : lastM gs t = lastM hs t := by
 have hm : ∀ k, (gs.getD k sgZ).m = (hs.getD k sgZ).m := fun k => congrArg (fun q : Sg4 => q.2.2.1) (v_at hv k)
 unfold lastM
 rw [v_len hv, hm]
theorem VlS.tip {V V' : Vl} (h : VlS V V') : V'.tip = V.tip := by unfold Vl.tip; rw [h.b, tipV_v h.gs]
theorem VlS.top {V V' : Vl} (h : VlS V V') : V'.top = V.top := by unfold Vl.top; rw [h.tip, h.b, h.p, h.t, h.im, cntV_v h.gs]
theorem VlS.newG {V V' : Vl} (h : VlS V V') (p : Int) (n : Nat) (v t : Int) : newG V' p n v t = newG V p n v t := by unfold Go.Proofs.YtieoiailjjnnoaaGreatDoor.newG; rw [h.top, lastM_v h.gs]
theorem VlS.y {V V' : Vl} (h : VlS V V') (hy : VltY V.g V.b V.p V.t V.xs V.ms V.gs V.im) : VltY V'.g V'.b V'.p V'.t V'.xs V'.ms V'.gs V'.im := Vl.y (h.ok ▸ hy.b)
end Go.Proofs.YtieoiailjjnnoaaGreatDoor
