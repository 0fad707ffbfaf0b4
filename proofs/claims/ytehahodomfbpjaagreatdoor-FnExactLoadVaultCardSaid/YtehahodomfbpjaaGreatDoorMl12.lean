/-
  Texts of the proof, put together in their order: Vvi, Vlc, Ldi, Vls, Vst.
  Conditions: those of each.
-/
import Derived.Test.YtehahodomfbpjaaGreatDoorMl11
/- The program's VaultOK. Conditions: what is read can be read, and holds at most 1048576 elements of a kind. -/
namespace Go.Proofs.YtehahodomfbpjaaGreatDoor
set_option linter.unusedVariables false
set_option maxRecDepth 100000
open Go.RowKit

set_option maxHeartbeats 4000000 in
theorem vaultRight_c (V : Vl) (B : Nat) (w : World) (h : Vlt w B V) (hB : B ≤ w.heap.size) (hn : VlN V 1048576) (hc : V.xs.length ≤ V.c) (hc3 : V.gs.length ≤ V.c3) (hm : AllM V.ms) :
    Calls Tryz.prog 94 #[V.v] w fun e w' => e = .returned (.bool V.ok) ∧ Nx w w' := by
  have hVW := view_c V B
  have hPL := hasPlaces_c V B
  have hFF := fitsForward_c V B
  have hFB := fitsBack_c V B
  obtain ⟨g, b, p, t, A, c, xs, A2, c2, ms, A3, c3, gs, A4, c4, im⟩ := V
  obtain ⟨h, h2, h3, h4⟩ := h
  obtain ⟨hn, hn2, hn3, hn4, hn5⟩ := hn
  simp only [Vl.v, Vl.cells] at *
  simp only [Vl.w, Vl.wcells] at *
  have HOKv : Hid (Vl.ok ⟨g, b, p, t, A, c, xs, A2, c2, ms, A3, c3, gs, A4, c4, im⟩ = vltB g b p t xs ms gs im) := Lib.hid rfl
  rw [HOKv.out]
  have HNo := Lib.hid (vltB_no (g := g) (b := b) (p := p) (t := t) (xs := xs) (ms := ms) (gs := gs) (im := im))
  have HYes := Lib.hid (fun h => VltY.b (g := g) (b := b) (p := p) (t := t) (xs := xs) (ms := ms) (gs := gs) (im := im) h)
  have HSup := Lib.hid (fun (w' : World) (hx : Nx w w') => superRight_c g b p t A A2 c c2 B xs ms w' (h.below hx hB) (h2.below hx hB) (Nat.le_trans hB hx.size) hn hn2 hc hm)
  have HCon := Lib.hid (fun (w' : World) (hx : Nx w w') => implContentOK_c A4 c4 B im w' (h4.below hx hB) (Nat.le_trans hB hx.size) hn5)
  have HCha := Lib.hid (fun (w' : World) (hx : Nx w w') => implChainOK_c b A3 c3 B gs w' (h3.below hx hB) (Nat.le_trans hB hx.size) hn3 hn4)
  have HVW := Lib.hid (fun (w' : World) (hx : Nx w w') (h8 : im.length = 8) => hVW w' (h4.below hx hB) (Nat.le_trans hB hx.size) h8)
  have HPL := Lib.hid (fun (w' : World) (hx : Nx w w') (hN : gs.length ≤ 4096) => hPL w' (h3.below hx hB) (h2.below hx hB) (Nat.le_trans hB hx.size) hN hn2)
  have HFF := Lib.hid (fun (w' : World) (hx : Nx w w') (hl : Lead b gs) (h8 : im.length = 8) (hp : plcB b p t gs ms = true) => hFF w' (h3.below hx hB) (Nat.le_trans hB hx.size) hl hc3 h8 hp)
  have HFB := Lib.hid (fun (w' : World) (hx : Nx w w') (hl : Lead b gs) (h8 : im.length = 8) (hp : plcB b p t gs ms = true) => hFB w' (h3.below hx hB) (Nat.le_trans hB hx.size) hl h8 hp)
  clear hVW hPL hFF hFB
  obtain ⟨n, Hn⟩ : ∃ n, Hid (gs.length = n) := ⟨_, rfl⟩
  obtain ⟨q, Hq⟩ : ∃ q, Hid (im.length = q) := ⟨_, rfl⟩
  obtain ⟨r, Hr⟩ : ∃ r, Hid (ms.length = r) := ⟨_, rfl⟩
  obtain ⟨z, Hz⟩ : ∃ z, Hid (xs.length = z) := ⟨_, rfl⟩
  rw [Hz.out, Hr.out] at HSup
  rw [Hq.out] at HCon
  rw [Hn.out] at HCha hn3
  rw [Hn.out, Hq.out, Hr.out, Hz.out] at HVW
  rw [Hn.out, Hr.out, Hz.out] at HPL
  rw [Hn.out, Hq.out, Hr.out, Hz.out] at HFF HFB
  rw [Hr.out] at hn2
  rw [Hz.out] at hn
  rw [Hq.out] at hn5
  rw [Hn.out, Hq.out, Hr.out, Hz.out]
  have b0 := Box.new w 33 #[.int .i64 g, .int .i64 b, .int .i64 p, .int .i64 t, .slice A z c, .slice A2 r c2, .slice A3 n c3, .slice A4 q c4]
  have hx0 := (Nx.refl w).alloc (.cells #[.int .i64 g, .int .i64 b, .int .i64 p, .int .i64 t, .slice A z c, .slice A2 r c2, .slice A3 n c3, .slice A4 q c4] 33)
  clear h h2 h3 h4 hn4 hc hm hc3
  go_enter Tryz.func94, Tryz.ntmps94
  go_wp2_with fail
  generalize w.alloc (.cells #[.int .i64 g, .int .i64 b, .int .i64 p, .int .i64 t, .slice A z c, .slice A2 r c2, .slice A3 n c3, .slice A4 q c4] 33) = W at *
  refine (HSup.out W hx0).mono ?_
  rintro e w1 ⟨rfl, hk⟩
  have b1 := b0.nx hk
  have hx := hx0.trans hk
  clear hx0 b0 hk
  cases h1 : superB g b p t xs ms with
  | false =>
    have HR := Lib.hid (HNo.out (.inl h1))
    clear h1
    go_wp2
    go_ret
    exact ⟨ret_bool HR.out.symm, hx⟩
  | true =>
  have H1 := Lib.hid h1
  clear h1
  obtain ⟨y0, y1, y2, y3, y4, y5, y6, y7⟩ := b1.e8
  go_wp2_with fail
  refine (HCon.out _ hx).mono ?_
  clear y0 y1 y2 y3 y4 y5 y6 y7
  rintro e w2 ⟨rfl, hk⟩
  have b2 := b1.nx hk
  replace hx := hx.trans hk
  clear b1 hk
  cases h2 : contB im with
  | false =>
    have HR := Lib.hid (HNo.out (.inr (.inl h2)))
    clear h2
    go_wp2
    go_ret
    exact ⟨ret_bool HR.out.symm, hx⟩
  | true =>
  have H2 := Lib.hid h2
  clear h2
  obtain ⟨y0, y1, y2, y3, y4, y5, y6, y7⟩ := b2.e8
  by_cases hle : n = z
  case neg =>
    have hd : ((n : Int) != (z : Int)) = true := by simp; omega
    have HR := Lib.hid (HNo.out (.inr (.inr (.inl (by rw [Hn.out, Hz.out]; exact hle)))))
    clear hle
    go_wp2
    go_ret
    exact ⟨ret_bool HR.out.symm, hx⟩
  have hd : ((n : Int) != (z : Int)) = false := by simp; omega
  have H4 := Lib.hid hle
  clear hle
  go_wp2_with fail
  refine (HCha.out _ hx).mono ?_
  clear y0 y1 y2 y3 y4 y5 y6 y7 hd
  rintro e w3 ⟨rfl, hk⟩
  have b3 := b2.nx hk
  replace hx := hx.trans hk
  clear b2 hk
  cases h3 : chainB b gs with
  | false =>
    have HR := Lib.hid (HNo.out (.inr (.inr (.inr (.inl h3)))))
    clear h3
    go_wp2
    go_ret
    exact ⟨ret_bool HR.out.symm, hx⟩
  | true =>
  have H3 := Lib.hid h3
  clear h3
  have HLd := Lib.hid (chainB_lead H3.out)
  have hn4 : n ≤ 4096 := by have := HLd.out.short; rw [Hn.out] at this; exact this
  have H8 : Hid (q = 8) := Lib.hid (by rw [← Hq.out]; exact (contB_yes H2.out).1)
  obtain rfl : q = 8 := H8.out
  obtain ⟨y0, y1, y2, y3, y4, y5, y6, y7⟩ := b3.e8
  go_wp2_with fail
  refine (HVW.out _ hx (by trivial)).mono ?_
  clear y0 y1 y2 y3 y4 y5 y6 y7
  rintro e w4 ⟨rfl, hk⟩
  have b4 := b3.nx hk
  replace hx := hx.trans hk
  clear b3 hk
  have rz := Box.new w4 118 #[.int .i64 0, .int .i64 0, .int .i64 0, .int .i64 0, .slice none 0 0, .slice none 0 0, .slice none 0 0, .int .i64 0, .int .i64 0, .int .i64 0, .int .i64 0, .int .i64 0, .int .i64 0, .int .i64 0, .int .i64 0]
  have bv := rz.row #[.int .i64 g, .int .i64 b, .int .i64 p, .int .i64 t, .slice A z c, .slice A2 r c2, .slice A3 n c3, inAt im 0, inAt im 1, inAt im 2, inAt im 3, inAt im 4, inAt im 5, inAt im 6, inAt im 7]
  have hx5 := (hx.alloc (.cells #[.int .i64 0, .int .i64 0, .int .i64 0, .int .i64 0, .slice none 0 0, .slice none 0 0, .slice none 0 0, .int .i64 0, .int .i64 0, .int .i64 0, .int .i64 0, .int .i64 0, .int .i64 0, .int .i64 0, .int .i64 0] 118)).setRow (g := w4.heap.size) hx.size #[.int .i64 g, .int .i64 b, .int .i64 p, .int .i64 t, .slice A z c, .slice A2 r c2, .slice A3 n c3, inAt im 0, inAt im 1, inAt im 2, inAt im 3, inAt im 4, inAt im 5, inAt im 6, inAt im 7]
  obtain ⟨y0, y1, y2, y3, y4, y5, y6, y7, y8, y9, y10, y11, y12, y13, y14⟩ := bv.e15
  go_wp2_with (refine wpList_store_row rfl _ _ _ rfl w4.heap.size #[.int .i64 g, .int .i64 b, .int .i64 p, .int .i64 t, .slice A z c, .slice A2 r c2, .slice A3 n c3, inAt im 0, inAt im 1, inAt im 2, inAt im 3, inAt im 4, inAt im 5, inAt im 6, inAt im 7] rfl rfl 118 #[.int .i64 0, .int .i64 0, .int .i64 0, .int .i64 0, .slice none 0 0, .slice none 0 0, .slice none 0 0, .int .i64 0, .int .i64 0, .int .i64 0, .int .i64 0, .int .i64 0, .int .i64 0, .int .i64 0, .int .i64 0] rz (by kernel_rfl) rfl (by simp [Value.oneCell', inAt]) ?_)
  clear y0 y1 y2 y3 y4 y5 y6 y7 y8 y9 y10 y11 y12 y13 y14 rz hx
  generalize (w4.alloc (.cells #[.int .i64 0, .int .i64 0, .int .i64 0, .int .i64 0, .slice none 0 0, .slice none 0 0, .slice none 0 0, .int .i64 0, .int .i64 0, .int .i64 0, .int .i64 0, .int .i64 0, .int .i64 0, .int .i64 0, .int .i64 0] 118)).setRow w4.heap.size #[.int .i64 g, .int .i64 b, .int .i64 p, .int .i64 t, .slice A z c, .slice A2 r c2, .slice A3 n c3, inAt im 0, inAt im 1, inAt im 2, inAt im 3, inAt im 4, inAt im 5, inAt im 6, inAt im 7] = W5 at *
  generalize w4.heap.size = gV at *
  refine (HPL.out _ hx5 hn4).mono ?_
  rintro e w6 ⟨rfl, hk⟩
  have bv6 := bv.nx hk
  have hx6 := hx5.trans hk
  clear bv hx5 hk
  cases h5 : plcB b p t gs ms with
  | false =>
    have HR := Lib.hid (HNo.out (.inr (.inr (.inr (.inr (.inl h5))))))
    clear h5
    go_wp2
    go_ret
    exact ⟨ret_bool HR.out.symm, hx6⟩
  | true =>
  have H5 := Lib.hid h5
  clear h5
  obtain ⟨y0, y1, y2, y3, y4, y5, y6, y7, y8, y9, y10, y11, y12, y13, y14⟩ := bv6.e15
  go_wp2_with fail
  clear y0 y1 y2 y3 y4 y5 y6 y7 y8 y9 y10 y11 y12 y13 y14
  refine (HFF.out _ hx6 HLd.out (by trivial) H5.out).mono ?_
  rintro e w7 ⟨rfl, hk⟩
  have bv7 := bv6.nx hk
  have hx7 := hx6.trans hk
  clear bv6 hx6 hk
  cases h6 : fitF (stp b p t gs im).1 gs (stp b p t gs im).2 with
  | false =>
    have HR := Lib.hid (HNo.out (.inr (.inr (.inr (.inr (.inr (.inl h6)))))))
    clear h6
    go_wp2
    go_ret
    exact ⟨ret_bool HR.out.symm, hx7⟩
  | true =>
  have H6 := Lib.hid h6
  clear h6
  obtain ⟨y0, y1, y2, y3, y4, y5, y6, y7, y8, y9, y10, y11, y12, y13, y14⟩ := bv7.e15
  go_wp2_with fail
  clear y0 y1 y2 y3 y4 y5 y6 y7 y8 y9 y10 y11 y12 y13 y14
  refine (HFB.out _ hx7 HLd.out (by trivial) H5.out).mono ?_
  rintro e w8 ⟨rfl, hk⟩
  have hx8 := hx7.trans hk
  clear hx7 hk
  cases h7 : fitB (stp b p t gs im).1 gs (stp b p t gs im).2 with
  | false =>
    have HR := Lib.hid (HNo.out (.inr (.inr (.inr (.inr (.inr (.inr h7)))))))
    clear h7
    go_wp2
    go_ret
    exact ⟨ret_bool HR.out.symm, hx8⟩
  | true =>
    have HR := Lib.hid (HYes.out ⟨H1.out, H2.out, by rw [Hn.out, Hz.out]; exact H4.out, H3.out, H5.out, H6.out, h7⟩)
    clear h7
    go_wp2
    go_ret
    exact ⟨ret_bool HR.out.symm, hx8⟩
end Go.Proofs.YtehahodomfbpjaaGreatDoor
/- What vaults that are alike have in common. Conditions: what is read can be read, and holds at most 1048576 elements of a kind. -/
namespace Go.Proofs.YtehahodomfbpjaaGreatDoor
set_option linter.unusedVariables false
set_option maxRecDepth 100000
open Go.RowKit

section
variable {gs hs : List SgR} (hv : gs.map SgR.v = hs.map SgR.v)
include hv
theorem retL_v (b : Int) : retL b gs = retL b hs := by
  have : gs.map SgR.t = hs.map SgR.t := by
    have := congrArg (List.map (fun q : Sg4 => q.2.1)) hv
    rw [List.map_map, List.map_map] at this
    exact this
  unfold retL; rw [this]
theorem isRet_v (b n : Int) : isRet b gs n = isRet b hs n := by unfold isRet; rw [retL_v hv, v_len hv]
theorem ahd_v (b n : Int) : ahd b gs n = ahd b hs n := by unfold ahd; rw [retL_v hv]
theorem stp_v (b p t : Int) (im : List Int) : stp b p t gs im = stp b p t hs im := by
  unfold stp
  rw [ahd_v hv, (v_parts hv (ahd b hs p)).2.2.2, (v_parts hv (ahd b hs p - 1)).2.2.2]
theorem fwK_v (c : List Int) (a : Nat) : ∀ j, fwK c gs a j = fwK c hs a j
  | 0 => rfl
  | j + 1 => by show app pN _ _ = app pN _ _; rw [fwK_v c a j, (v_parts hv (a + j)).2.2.2]
theorem bkK_v (c : List Int) (a : Nat) : ∀ j, bkK c gs a j = bkK c hs a j
  | 0 => rfl
  | j + 1 => by show app pO _ _ = app pO _ _; rw [bkK_v c a j, (v_parts hv (a - 1 - j)).2.2.2]
theorem fitF_v (c : List Int) (a : Nat) : fitF c gs a = fitF c hs a := by
  unfold fitF
  rw [v_len hv]
  congr 1
  funext j
  unfold oldB
  rw [fwK_v hv, (v_parts hv (a + j)).2.2.2]
theorem fitB_v (c : List Int) (a : Nat) : fitB c gs a = fitB c hs a := by
  unfold fitB
  congr 1
  funext j
  unfold newB
  rw [bkK_v hv, (v_parts hv (a - 1 - j)).2.2.2]
theorem plcB_v (b p t : Int) (ms : List Mrk) : plcB b p t gs ms = plcB b p t hs ms := by
  unfold plcB mksR
  rw [isRet_v hv, isRet_v hv]
  congr 2
  congr 1
  funext k
  exact isRet_v hv b _
theorem vltB_v (g b p t : Int) (xs : List Int) (ms : List Mrk) (im : List Int) : vltB g b p t xs ms gs im = vltB g b p t xs ms hs im := by
  unfold vltB
  rw [v_len hv, chainB_v hv, plcB_v hv, stp_v hv, fitF_v hv, fitB_v hv]
end
theorem VlS.ok {V V' : Vl} (h : VlS V V') : V.ok = V'.ok := by
  unfold Vl.ok
  rw [h.g, h.b, h.p, h.t, h.xs, h.ms, h.im, vltB_v h.gs]
end Go.Proofs.YtehahodomfbpjaaGreatDoor
/- Contracts of the program's vault (of a disk) and of LoadVault. Conditions: the disk can be read, and holds at most 1048576 elements of a kind; the package's errors are known, the library's variables MaxLen and errorType too. -/
namespace Go.Proofs.YtehahodomfbpjaaGreatDoor
set_option linter.unusedVariables false
set_option maxRecDepth 100000
open Go.RowKit

theorem Sr.rowfar {w : World} {lo hi m g : Nat} {A : Option Addr} {t : TypeId} {f : Nat → Value} (h : Sr w lo hi A t m f) (hg : g < lo) (ds : Array Value) : Sr (w.setRow g ds) lo hi A t m f := fun hm => by
  obtain ⟨k, e, hl, hh, ho⟩ := h hm; exact ⟨k, e, hl, hh, ho.rowfar (by omega) ds⟩
theorem VlP.rowfar {w : World} {lo mid hi g : Nat} {V : Vl} (h : VlP w lo mid hi V) (hg : g < lo) (ds : Array Value) : VlP (w.setRow g ds) lo mid hi V :=
  have h' : g < mid := Nat.lt_of_lt_of_le hg h.le
  ⟨h.tab.rowfar hg ds, h.mks.rowfar hg ds, h.row.rowfar h' ds, fun k hk => (h.chs k hk).rowfar h' ds, h.img.rowfar h' ds, h.dj, h.cap, h.cap3, h.le, h.le2⟩
theorem newU_super {ss : List ByteArray} {ws : List (Int × ByteArray)} {g b p q s : Int} {xs : List Int} {ms : List Mrk} (h : newU (rdU (readP ss ws 0)) (rdU (readP ss ws 1)) = some ((g, b, p, q, xs, ms), s)) : superB g b p q xs ms = true := by
  rcases newU_from h with e | e
  · exact rdU_super e
  · exact rdU_super e
/-- What is read of a right disk is a small vault. -/
theorem ld_small {ss : List ByteArray} {ws : List (Int × ByteArray)} {g b p q : Int} {xs : List Int} {ms : List Mrk} {gs : List SgR} {im : List Int} (hD : diskB ss ws = true) (hs : superB g b p q xs ms = true) (hg : GsTo ss ws xs xs.length gs) (hi : ImTo ss ws 8 im) (Ax : Option Addr) (cx : Nat) (Am : Option Addr) (cm : Nat) (Ag : Option Addr) (cg : Nat) (Ai : Option Addr) (ci : Nat) :
    VlN ⟨g, b, p, q, Ax, cx, xs, Am, cm, ms, Ag, cg, gs, Ai, ci, im⟩ 1048576 ∧ AllM ms := by
  obtain ⟨_, _, _, _, h5, h6⟩ := superB_yes hs
  have h1 := (tbB_yes h5).1
  have h2 := (msB_yes h6).1
  have h3 := hg.len
  have h4 := hi.len
  refine ⟨⟨show xs.length ≤ _ by omega, show ms.length ≤ _ by omega, show gs.length ≤ _ by omega, fun k hk => ?_, show im.length ≤ _ by omega⟩, msB_all h6⟩
  have hk' : k < gs.length := hk
  have hv := v_at (gs := gs) (hs := xs.map (ldS ss ws)) (by rw [hg.v, List.take_length, List.map_map]; rfl) k
  have hkx : k < xs.length := by omega
  have e : (xs.map (ldS ss ws)).getD k sgZ = ldS ss ws xs[k] := by
    rw [List.getD_eq_getElem?_getD, List.getElem?_map, List.getElem?_eq_getElem hkx]; rfl
  rw [e] at hv
  have hv2 : (gs.getD k sgZ).cs = (ldS ss ws xs[k]).cs := congrArg (fun q : Sg4 => q.2.2.2) hv
  show (gs.getD k sgZ).cs.length ≤ 1048576
  rw [hv2]
  unfold ldS
  cases hq : ldG ss ws xs[k] with
  | none => exact Nat.zero_le _
  | some q =>
    have h7 := rdG_short hq
    have h8 := readP_size hD xs[k].toNat
    show q.2.2.2.length ≤ 1048576
    omega
set_option maxHeartbeats 4000000 in
theorem diskVault_c (A A2 : Option Addr) (n c n2 c2 B : Nat) (ss : List ByteArray) (ws : List (Int × ByteArray)) (w : World) (a0 a1 : Addr) (h : Strs w B A n ss) (h2 : Wrs w B A2 n2 ws) (hB : B ≤ w.heap.size) (hn : n ≤ 1048576) (hn2 : n2 ≤ 1048576) (hD : diskB ss ws = true) (hE : Er w a0 a1) (hM : Mx w) (hEt : Et w) :
    Calls Tryz.prog 59 #[.agg #[.slice A n c, .slice A2 n2 c2]] w (RetLd w (ldV ss ws)) := by
  have r0 : Box ((w.alloc (.cells #[.slice A n c, .slice A2 n2 c2] 38)).alloc (.cells #[.int .i64 0, .int .i64 0, .int .i64 0, .int .i64 0, .slice none 0 0, .slice none 0 0, .slice none 0 0, .slice none 0 0] 33)) (w.heap.size + 1) 33 #[.int .i64 0, .int .i64 0, .int .i64 0, .int .i64 0, .slice none 0 0, .slice none 0 0, .slice none 0 0, .slice none 0 0] := by have := Box.new (w.alloc (.cells #[.slice A n c, .slice A2 n2 c2] 38)) 33 #[.int .i64 0, .int .i64 0, .int .i64 0, .int .i64 0, .slice none 0 0, .slice none 0 0, .slice none 0 0, .slice none 0 0]; rwa [World.size_alloc] at this
  have e0 : Box ((w.alloc (.cells #[.slice A n c, .slice A2 n2 c2] 38)).alloc (.cells #[.int .i64 0, .int .i64 0, .int .i64 0, .int .i64 0, .slice none 0 0, .slice none 0 0, .slice none 0 0, .slice none 0 0] 33)) w.heap.size 38 #[.slice A n c, .slice A2 n2 c2] := (Box.new w _ _).alloc _
  have hx0 := ((Nx.refl w).alloc (.cells #[.slice A n c, .slice A2 n2 c2] 38)).alloc (.cells #[.int .i64 0, .int .i64 0, .int .i64 0, .int .i64 0, .slice none 0 0, .slice none 0 0, .slice none 0 0, .slice none 0 0] 33)
  go_enter Tryz.func59, Tryz.ntmps59
  go_wp2_with fail
  generalize (w.alloc (.cells #[.slice A n c, .slice A2 n2 c2] 38)).alloc (.cells #[.int .i64 0, .int .i64 0, .int .i64 0, .int .i64 0, .slice none 0 0, .slice none 0 0, .slice none 0 0, .slice none 0 0] 33) = W at *
  obtain ⟨gR, Hg⟩ : ∃ g, Hid (w.heap.size + 1 = g) := ⟨_, rfl⟩
  have hgR : w.heap.size ≤ gR := by have := Hg.out; omega
  have hgR1 : w.heap.size < gR := by have := Hg.out; omega
  rw [Hg.out] at r0 ⊢
  have hltR0 := r0.lt
  have h1n : 1 < n := by have := (diskB_len64 hD).1; have := h.1; omega
  have HD := Lib.hid hD
  clear hD
  have z0 := e0.c0
  have z1 := e0.c1
  go_wp2_with fail
  refine (newestSuper_c A A2 n c n2 c2 B ss ws _ a0 a1 (h.below hx0 hB) (h2.below hx0 hB) (Nat.le_trans hB hx0.size) h1n hn hn2 (by have := readP_size HD.out 0; omega) (by have := readP_size HD.out 1; omega) (hE.nx hx0) (hM.nx hx0) (hEt.nx hx0)).mono ?_
  rintro e w2 ⟨hnx2, h1, h2'⟩
  have r2 := r0.nx hnx2
  have e2 := e0.nx hnx2
  have hx2 := hx0.trans hnx2
  have hltR : gR < W.heap.size := hltR0
  have hlt2 := r2.lt
  clear r0 e0 z0 z1 hltR0
  cases hu : newU (rdU (readP ss ws 0)) (rdU (readP ss ws 1)) with
  | none =>
    have HA := Lib.hid (ldV_none hu)
    have he := h1 hu
    unfold slE at he
    subst he
    clear h1 h2' hu
    go_wp2_with fail
    have r3 := r2.alloc (.cells #[.int .i64 0, .int .i64 0, .int .i64 0, .int .i64 0, .slice none 0 0, .slice none 0 0] 30)
    have hx3 := hx2.alloc (.cells #[.int .i64 0, .int .i64 0, .int .i64 0, .int .i64 0, .slice none 0 0, .slice none 0 0] 30)
    change Calls _ _ _ (w2.alloc (.cells #[.int .i64 0, .int .i64 0, .int .i64 0, .int .i64 0, .slice none 0 0, .slice none 0 0] 30)) _
    generalize w2.alloc (.cells #[.int .i64 0, .int .i64 0, .int .i64 0, .int .i64 0, .slice none 0 0, .slice none 0 0] 30) = w3 at *
    refine (slotCode_c 1 19 _ (hEt.nx hx3)).mono ?_
    rintro e w4 ⟨rfl, hnx4⟩
    have r4 := r3.nx hnx4
    have hx4 := hx3.trans hnx4
    have rq := r4.row #[.int .i64 0, .int .i64 0, .int .i64 0, .int .i64 0, .slice none 0 0, .slice none 0 0, .slice none 0 0, .slice none 0 0]
    have hnf := hx4.setRow hgR #[.int .i64 0, .int .i64 0, .int .i64 0, .int .i64 0, .slice none 0 0, .slice none 0 0, .slice none 0 0, .slice none 0 0]
    go_wp2_with (refine wpList_store_row rfl _ _ _ rfl gR #[.int .i64 0, .int .i64 0, .int .i64 0, .int .i64 0, .slice none 0 0, .slice none 0 0, .slice none 0 0, .slice none 0 0] rfl rfl 33 #[.int .i64 0, .int .i64 0, .int .i64 0, .int .i64 0, .slice none 0 0, .slice none 0 0, .slice none 0 0, .slice none 0 0] r4 (by kernel_rfl) rfl (by simp [Value.oneCell']) ?_)
    generalize w4.setRow gR #[.int .i64 0, .int .i64 0, .int .i64 0, .int .i64 0, .slice none 0 0, .slice none 0 0, .slice none 0 0, .slice none 0 0] = Wf at *
    obtain ⟨g0, g1, g2, g3, g4, g5, g6, g7⟩ := rq.e8
    exact bodyPost_ret (v := .tuple #[.agg #[.int .i64 0, .int .i64 0, .int .i64 0, .int .i64 0, .slice none 0 0, .slice none 0 0, .slice none 0 0, .slice none 0 0], .int .i64 19]) (by simp [results, Tryz.results59, go_sem, g0, g1, g2, g3, g4, g5, g6, g7]) rfl ⟨zVl, w.heap.size, by rw [HA.out]; rfl, by rw [HA.out]; exact VlS.refl _, VlP.zero _ hnf.size, hnf⟩
  | some us =>
    obtain ⟨⟨g, b, p, q, xs, ms⟩, sl⟩ := us
    obtain ⟨Ax, cx, Am, cm, he, hcc, hS1, hM1⟩ := h2' _ _ hu
    replace he : e = .returned (.tuple #[.agg #[.int .i64 g, .int .i64 b, .int .i64 p, .int .i64 q, .slice Ax xs.length cx, .slice Am ms.length cm], .int .i64 sl, .nilIface]) := he
    replace hS1 : SlI w2 W.heap.size Ax xs := hS1
    replace hM1 : SlM w2 W.heap.size Am ms := hM1
    replace hcc : xs.length ≤ cx := hcc
    have HCC := Lib.hid hcc
    have HU := Lib.hid hu
    have hsup := newU_super hu
    have HSup := Lib.hid hsup
    have htb := (superB_yes hsup).2.2.2.2.1
    subst he
    clear h1 h2' hu hcc hsup
    have hz3 := (Nx.refl w2).alloc (.cells #[.int .i64 g, .int .i64 b, .int .i64 p, .int .i64 q, .slice Ax xs.length cx, .slice Am ms.length cm] 30)
    have s3 := Box.new w2 30 #[.int .i64 g, .int .i64 b, .int .i64 p, .int .i64 q, .slice Ax xs.length cx, .slice Am ms.length cm]
    have r3 := r2.nx hz3
    have e3 := e2.nx hz3
    have hx3 := hx2.trans hz3
    have hS3 := (hS1.sr.nx hz3).up hz3.size
    have hM3 := (hM1.sr.nx hz3).up hz3.size
    have hT3 := hS1.row.below hz3 (Nat.le_refl _)
    have hzz : w2.heap.size < (w2.alloc (.cells #[.int .i64 g, .int .i64 b, .int .i64 p, .int .i64 q, .slice Ax xs.length cx, .slice Am ms.length cm] 30)).heap.size := by simp
    have hlW : W.heap.size ≤ (w2.alloc (.cells #[.int .i64 g, .int .i64 b, .int .i64 p, .int .i64 q, .slice Ax xs.length cx, .slice Am ms.length cm] 30)).heap.size := Nat.le_trans hnx2.size hz3.size
    obtain ⟨y0, y1, y2, y3, y4, y5⟩ := s3.d6
    have z0 := e3.c0
    have z1 := e3.c1
    clear r2 e2 hx2 hS1 hM1
    go_wp2_with fail
    generalize w2.alloc (.cells #[.int .i64 g, .int .i64 b, .int .i64 p, .int .i64 q, .slice Ax xs.length cx, .slice Am ms.length cm] 30) = w3 at *
    obtain ⟨gS, HgS⟩ : ∃ g, Hid (w2.heap.size = g) := ⟨_, rfl⟩
    rw [HgS.out] at s3 hzz hT3 y0 y1 y2 y3 y4 y5 ⊢
    refine (segsIn_c A A2 Ax n c n2 c2 cx gS ss ws xs _ a0 a1 (h.below hx3 hB |>.more (Nat.le_of_lt (Nat.lt_of_le_of_lt hB (by have := hnx2.size; have := hx0.size; have := HgS.out; omega)))) (h2.below hx3 hB |>.more (by have := hnx2.size; have := hx0.size; have := HgS.out; omega)) hT3 (Nat.le_of_lt hzz) hn hn2 HD.out htb (hE.nx hx3)).mono ?_
    rintro e w4 ⟨hk4, hret⟩
    have r4 := r3.nx hk4
    have e4 := e3.nx hk4
    have s4 := s3.nx hk4
    have hx4 := hx3.trans hk4
    have hS4 := hS3.nx hk4
    have hM4 := hM3.nx hk4
    clear r3 e3 s3 hS3 hM3 z0 z1 y0 y1 y2 y3 y4 y5
    rcases hret with ⟨⟨k, hk, hno⟩, rfl⟩ | ⟨Ag, cg, gs, rfl, hgs, hcg, hSg, hdj⟩
    · have HA := Lib.hid (ldV_seg HU.out hk hno)
      clear hno hk
      have rq := r4.row #[.int .i64 0, .int .i64 0, .int .i64 0, .int .i64 0, .slice none 0 0, .slice none 0 0, .slice none 0 0, .slice none 0 0]
      have hnf := hx4.setRow hgR #[.int .i64 0, .int .i64 0, .int .i64 0, .int .i64 0, .slice none 0 0, .slice none 0 0, .slice none 0 0, .slice none 0 0]
      go_wp2_with (refine wpList_store_row rfl _ _ _ rfl gR #[.int .i64 0, .int .i64 0, .int .i64 0, .int .i64 0, .slice none 0 0, .slice none 0 0, .slice none 0 0, .slice none 0 0] rfl rfl 33 #[.int .i64 0, .int .i64 0, .int .i64 0, .int .i64 0, .slice none 0 0, .slice none 0 0, .slice none 0 0, .slice none 0 0] r4 (by kernel_rfl) rfl (by simp [Value.oneCell']) ?_)
      generalize w4.setRow gR #[.int .i64 0, .int .i64 0, .int .i64 0, .int .i64 0, .slice none 0 0, .slice none 0 0, .slice none 0 0, .slice none 0 0] = Wf at *
      obtain ⟨g0, g1, g2, g3, g4, g5, g6, g7⟩ := rq.e8
      exact bodyPost_ret (v := .tuple #[.agg #[.int .i64 0, .int .i64 0, .int .i64 0, .int .i64 0, .slice none 0 0, .slice none 0 0, .slice none 0 0, .slice none 0 0], .int .i64 10]) (by simp [results, Tryz.results59, go_sem, g0, g1, g2, g3, g4, g5, g6, g7]) rfl ⟨zVl, w.heap.size, by rw [HA.out]; rfl, by rw [HA.out]; exact VlS.refl _, VlP.zero _ hnf.size, hnf⟩
    have HGs := Lib.hid hgs
    have HDj := Lib.hid hdj
    have HCG := Lib.hid hcg
    clear hgs hdj hcg
    have z0 := e4.c0
    have z1 := e4.c1
    go_wp2_with fail
    refine (image_c A A2 n c n2 c2 B ss ws _ a0 a1 (h.below hx4 hB) (h2.below hx4 hB) (Nat.le_trans hB hx4.size) hn hn2 HD.out (hE.nx hx4)).mono ?_
    rintro e w5 ⟨hk5, hret⟩
    have r5 := r4.nx hk5
    have s5 := s4.nx hk5
    have hx5 := hx4.trans hk5
    have hS5 := hS4.nx hk5
    have hM5 := hM4.nx hk5
    have hSg5 := hSg.nx hk5
    have hl4 : w3.heap.size ≤ w4.heap.size := hk4.size
    clear r4 e4 s4 hS4 hM4 z0 z1 hSg
    rcases hret with ⟨⟨k, hk, hno⟩, rfl⟩ | ⟨Ai, ci, im, rfl, him, hSi⟩
    · have HA := Lib.hid (ldV_img HU.out hk hno)
      clear hno hk
      have rq := r5.row #[.int .i64 0, .int .i64 0, .int .i64 0, .int .i64 0, .slice none 0 0, .slice none 0 0, .slice none 0 0, .slice none 0 0]
      have hnf := hx5.setRow hgR #[.int .i64 0, .int .i64 0, .int .i64 0, .int .i64 0, .slice none 0 0, .slice none 0 0, .slice none 0 0, .slice none 0 0]
      go_wp2_with (refine wpList_store_row rfl _ _ _ rfl gR #[.int .i64 0, .int .i64 0, .int .i64 0, .int .i64 0, .slice none 0 0, .slice none 0 0, .slice none 0 0, .slice none 0 0] rfl rfl 33 #[.int .i64 0, .int .i64 0, .int .i64 0, .int .i64 0, .slice none 0 0, .slice none 0 0, .slice none 0 0, .slice none 0 0] r5 (by kernel_rfl) rfl (by simp [Value.oneCell']) ?_)
      generalize w5.setRow gR #[.int .i64 0, .int .i64 0, .int .i64 0, .int .i64 0, .slice none 0 0, .slice none 0 0, .slice none 0 0, .slice none 0 0] = Wf at *
      obtain ⟨g0, g1, g2, g3, g4, g5, g6, g7⟩ := rq.e8
      exact bodyPost_ret (v := .tuple #[.agg #[.int .i64 0, .int .i64 0, .int .i64 0, .int .i64 0, .slice none 0 0, .slice none 0 0, .slice none 0 0, .slice none 0 0], .int .i64 10]) (by simp [results, Tryz.results59, go_sem, g0, g1, g2, g3, g4, g5, g6, g7]) rfl ⟨zVl, w.heap.size, by rw [HA.out]; rfl, by rw [HA.out]; exact VlS.refl _, VlP.zero _ hnf.size, hnf⟩
    have HIm := Lib.hid him
    clear him
    have hz6 := (Nx.refl w5).alloc (.cells #[.int .i64 g, .int .i64 b, .int .i64 p, .int .i64 q, .slice Ax xs.length cx, .slice Am ms.length cm, .slice Ag gs.length cg, .slice Ai im.length ci] 33)
    have v6 := Box.new w5 33 #[.int .i64 g, .int .i64 b, .int .i64 p, .int .i64 q, .slice Ax xs.length cx, .slice Am ms.length cm, .slice Ag gs.length cg, .slice Ai im.length ci]
    have r6 := r5.nx hz6
    have hx6 := hx5.trans hz6
    have hP6 : VlP (w5.alloc (.cells #[.int .i64 g, .int .i64 b, .int .i64 p, .int .i64 q, .slice Ax xs.length cx, .slice Am ms.length cm, .slice Ag gs.length cg, .slice Ai im.length ci] 33)) W.heap.size w3.heap.size (w5.alloc (.cells #[.int .i64 g, .int .i64 b, .int .i64 p, .int .i64 q, .slice Ax xs.length cx, .slice Am ms.length cm, .slice Ag gs.length cg, .slice Ai im.length ci] 33)).heap.size ⟨g, b, p, q, Ax, cx, xs, Am, cm, ms, Ag, cg, gs, Ai, ci, im⟩ :=
      ⟨hS5.nx hz6, hM5.nx hz6, (hSg5.row.sr.nx hz6).up hz6.size, fun k hk => ((hSg5.chs k hk).sr.nx hz6).up hz6.size, ((hSi.low hl4).sr.nx hz6).up hz6.size, HDj.out, HCC.out, HCG.out, hlW, by have := hk4.size; have := hk5.size; have := hz6.size; omega⟩
    obtain ⟨y0, y1, y2, y3, y4, y5⟩ := s5.d6
    obtain ⟨x0, x1, x2, x3, x4, x5, x6, x7⟩ := v6.e8
    clear r5 hx5 hS5 hM5 hSg5 hSi
    go_wp2_with fail
    generalize w5.alloc (.cells #[.int .i64 g, .int .i64 b, .int .i64 p, .int .i64 q, .slice Ax xs.length cx, .slice Am ms.length cm, .slice Ag gs.length cg, .slice Ai im.length ci] 33) = w6 at *
    obtain ⟨gV, HgV⟩ : ∃ g, Hid (w5.heap.size = g) := ⟨_, rfl⟩
    rw [HgV.out] at v6 x0 x1 x2 x3 x4 x5 x6 x7 ⊢
    clear y0 y1 y2 y3 y4 y5 x0 x1 x2 x3 x4 x5 x6 x7 s5
    obtain ⟨hNs, hAm⟩ := ld_small HD.out HSup.out HGs.out HIm.out Ax cx Am cm Ag cg Ai ci
    have HW := Lib.hid (ldW_s (g := g) (b := b) (p := p) (t := q) (ms := ms) HGs.out HIm.out Ax cx Am cm Ag cg Ai ci)
    have HOk := Lib.hid (ldOk_of (u := (g, b, p, q, xs, ms)) HGs.out HIm.out)
    refine (vaultRight_c ⟨g, b, p, q, Ax, cx, xs, Am, cm, ms, Ag, cg, gs, Ai, ci, im⟩ w6.heap.size w6 (hP6.own.vlt) (Nat.le_refl _) hNs HCC.out HCG.out hAm).mono ?_
    rintro e w7 ⟨rfl, hk7⟩
    rw [← HW.out.ok]
    have r7 := r6.nx hk7
    have hx7 := hx6.trans hk7
    have hP7 := (hP6.nx hk7).up hk7.size
    have v7 := v6.nx hk7
    clear r6 hx6 hP6 v6 hNs hAm
    obtain ⟨x0, x1, x2, x3, x4, x5, x6, x7⟩ := v7.e8
    cases hv : (ldW ss ws (g, b, p, q, xs, ms)).ok with
    | false =>
      have HA := Lib.hid (ldV_wrong HU.out hv)
      clear hv x0 x1 x2 x3 x4 x5 x6 x7
      have rq := r7.row #[.int .i64 0, .int .i64 0, .int .i64 0, .int .i64 0, .slice none 0 0, .slice none 0 0, .slice none 0 0, .slice none 0 0]
      have hnf := hx7.setRow hgR #[.int .i64 0, .int .i64 0, .int .i64 0, .int .i64 0, .slice none 0 0, .slice none 0 0, .slice none 0 0, .slice none 0 0]
      go_wp2_with (refine wpList_store_row rfl _ _ _ rfl gR #[.int .i64 0, .int .i64 0, .int .i64 0, .int .i64 0, .slice none 0 0, .slice none 0 0, .slice none 0 0, .slice none 0 0] rfl rfl 33 #[.int .i64 0, .int .i64 0, .int .i64 0, .int .i64 0, .slice none 0 0, .slice none 0 0, .slice none 0 0, .slice none 0 0] r7 (by kernel_rfl) rfl (by simp [Value.oneCell']) ?_)
      generalize w7.setRow gR #[.int .i64 0, .int .i64 0, .int .i64 0, .int .i64 0, .slice none 0 0, .slice none 0 0, .slice none 0 0, .slice none 0 0] = Wf at *
      obtain ⟨g0, g1, g2, g3, g4, g5, g6, g7⟩ := rq.e8
      exact bodyPost_ret (v := .tuple #[.agg #[.int .i64 0, .int .i64 0, .int .i64 0, .int .i64 0, .slice none 0 0, .slice none 0 0, .slice none 0 0, .slice none 0 0], .int .i64 10]) (by simp [results, Tryz.results59, go_sem, g0, g1, g2, g3, g4, g5, g6, g7]) rfl ⟨zVl, w.heap.size, by rw [HA.out]; rfl, by rw [HA.out]; exact VlS.refl _, VlP.zero _ hnf.size, hnf⟩
    | true =>
      have HA := Lib.hid (ldV_yes HU.out HOk.out hv)
      clear hv
      have rq := r7.row #[.int .i64 g, .int .i64 b, .int .i64 p, .int .i64 q, .slice Ax xs.length cx, .slice Am ms.length cm, .slice Ag gs.length cg, .slice Ai im.length ci]
      have hnf := hx7.setRow hgR #[.int .i64 g, .int .i64 b, .int .i64 p, .int .i64 q, .slice Ax xs.length cx, .slice Am ms.length cm, .slice Ag gs.length cg, .slice Ai im.length ci]
      have hvf := hP7.rowfar hltR #[.int .i64 g, .int .i64 b, .int .i64 p, .int .i64 q, .slice Ax xs.length cx, .slice Am ms.length cm, .slice Ag gs.length cg, .slice Ai im.length ci]
      have hzf := size_setRow w7 gR #[.int .i64 g, .int .i64 b, .int .i64 p, .int .i64 q, .slice Ax xs.length cx, .slice Am ms.length cm, .slice Ag gs.length cg, .slice Ai im.length ci]
      go_wp2_with (refine wpList_store_row rfl _ _ _ rfl gR #[.int .i64 g, .int .i64 b, .int .i64 p, .int .i64 q, .slice Ax xs.length cx, .slice Am ms.length cm, .slice Ag gs.length cg, .slice Ai im.length ci] rfl rfl 33 #[.int .i64 0, .int .i64 0, .int .i64 0, .int .i64 0, .slice none 0 0, .slice none 0 0, .slice none 0 0, .slice none 0 0] r7 (by kernel_rfl) rfl (by simp [Value.oneCell']) ?_)
      generalize w7.setRow gR #[.int .i64 g, .int .i64 b, .int .i64 p, .int .i64 q, .slice Ax xs.length cx, .slice Am ms.length cm, .slice Ag gs.length cg, .slice Ai im.length ci] = Wf at *
      obtain ⟨g0, g1, g2, g3, g4, g5, g6, g7⟩ := rq.e8
      exact bodyPost_ret (v := .tuple #[.agg #[.int .i64 g, .int .i64 b, .int .i64 p, .int .i64 q, .slice Ax xs.length cx, .slice Am ms.length cm, .slice Ag gs.length cg, .slice Ai im.length ci], .int .i64 0]) (by simp [results, Tryz.results59, go_sem, g0, g1, g2, g3, g4, g5, g6, g7]) rfl ⟨⟨g, b, p, q, Ax, cx, xs, Am, cm, ms, Ag, cg, gs, Ai, ci, im⟩, w3.heap.size, by rw [HA.out]; rfl, by rw [HA.out]; exact HW.out, (hvf.low hx0.size).up (by omega), hnf⟩
set_option maxHeartbeats 4000000 in
theorem implLoadVault_c (A A2 : Option Addr) (n c n2 c2 B : Nat) (ss : List ByteArray) (ws : List (Int × ByteArray)) (w : World) (a0 a1 : Addr) (h : Strs w B A n ss) (h2 : Wrs w B A2 n2 ws) (hB : B ≤ w.heap.size) (hn : n ≤ 1048576) (hn2 : n2 ≤ 1048576) (hE : Er w a0 a1) (hM : Mx w) (hEt : Et w) :
    Calls Tryz.prog 13 #[.agg #[.slice A n c, .slice A2 n2 c2]] w (RetLd w (ldA ss ws)) := by
  have r0 : Box ((w.alloc (.cells #[.slice A n c, .slice A2 n2 c2] 38)).alloc (.cells #[.int .i64 0, .int .i64 0, .int .i64 0, .int .i64 0, .slice none 0 0, .slice none 0 0, .slice none 0 0, .slice none 0 0] 33)) (w.heap.size + 1) 33 #[.int .i64 0, .int .i64 0, .int .i64 0, .int .i64 0, .slice none 0 0, .slice none 0 0, .slice none 0 0, .slice none 0 0] := by have := Box.new (w.alloc (.cells #[.slice A n c, .slice A2 n2 c2] 38)) 33 #[.int .i64 0, .int .i64 0, .int .i64 0, .int .i64 0, .slice none 0 0, .slice none 0 0, .slice none 0 0, .slice none 0 0]; rwa [World.size_alloc] at this
  have e0 : Box ((w.alloc (.cells #[.slice A n c, .slice A2 n2 c2] 38)).alloc (.cells #[.int .i64 0, .int .i64 0, .int .i64 0, .int .i64 0, .slice none 0 0, .slice none 0 0, .slice none 0 0, .slice none 0 0] 33)) w.heap.size 38 #[.slice A n c, .slice A2 n2 c2] := (Box.new w _ _).alloc _
  have hx0 := ((Nx.refl w).alloc (.cells #[.slice A n c, .slice A2 n2 c2] 38)).alloc (.cells #[.int .i64 0, .int .i64 0, .int .i64 0, .int .i64 0, .slice none 0 0, .slice none 0 0, .slice none 0 0, .slice none 0 0] 33)
  go_enter Tryz.func13, Tryz.ntmps13
  go_wp2_with fail
  generalize (w.alloc (.cells #[.slice A n c, .slice A2 n2 c2] 38)).alloc (.cells #[.int .i64 0, .int .i64 0, .int .i64 0, .int .i64 0, .slice none 0 0, .slice none 0 0, .slice none 0 0, .slice none 0 0] 33) = W at *
  obtain ⟨gR, Hg⟩ : ∃ g, Hid (w.heap.size + 1 = g) := ⟨_, rfl⟩
  have hgR : w.heap.size ≤ gR := by have := Hg.out; omega
  have hgR1 : w.heap.size < gR := by have := Hg.out; omega
  rw [Hg.out] at r0 ⊢
  have hltR0 := r0.lt
  refine (isRight_c A A2 n c n2 c2 B ss ws _ (h.below hx0 hB) (h2.below hx0 hB) (Nat.le_trans hB hx0.size) hn hn2).mono ?_
  rintro e w1 ⟨rfl, hnx1⟩
  have r1 := r0.nx hnx1
  have e1 := e0.nx hnx1
  have hx1 := hx0.trans hnx1
  clear r0 e0
  cases hD : diskB ss ws with
  | false =>
    have HA := Lib.hid (ldA_bad hD)
    clear hD
    have rq := r1.row #[.int .i64 0, .int .i64 0, .int .i64 0, .int .i64 0, .slice none 0 0, .slice none 0 0, .slice none 0 0, .slice none 0 0]
    have hnf := hx1.setRow hgR #[.int .i64 0, .int .i64 0, .int .i64 0, .int .i64 0, .slice none 0 0, .slice none 0 0, .slice none 0 0, .slice none 0 0]
    go_wp2_with (refine wpList_store_row rfl _ _ _ rfl gR #[.int .i64 0, .int .i64 0, .int .i64 0, .int .i64 0, .slice none 0 0, .slice none 0 0, .slice none 0 0, .slice none 0 0] rfl rfl 33 #[.int .i64 0, .int .i64 0, .int .i64 0, .int .i64 0, .slice none 0 0, .slice none 0 0, .slice none 0 0, .slice none 0 0] r1 (by kernel_rfl) rfl (by simp [Value.oneCell']) ?_)
    generalize w1.setRow gR #[.int .i64 0, .int .i64 0, .int .i64 0, .int .i64 0, .slice none 0 0, .slice none 0 0, .slice none 0 0, .slice none 0 0] = Wf at *
    obtain ⟨g0, g1, g2, g3, g4, g5, g6, g7⟩ := rq.e8
    exact bodyPost_ret (v := .tuple #[.agg #[.int .i64 0, .int .i64 0, .int .i64 0, .int .i64 0, .slice none 0 0, .slice none 0 0, .slice none 0 0, .slice none 0 0], .int .i64 1]) (by simp [results, Tryz.results13, go_sem, g0, g1, g2, g3, g4, g5, g6, g7]) rfl ⟨zVl, w.heap.size, by rw [HA.out]; rfl, by rw [HA.out]; exact VlS.refl _, VlP.zero _ hnf.size, hnf⟩
  | true =>
    have HA := Lib.hid (ldA_yes hD)
    have HD := Lib.hid hD
    clear hD
    have z0 := e1.c0
    have z1 := e1.c1
    have hltR := r1.lt
    go_wp2_with fail
    refine (diskVault_c A A2 n c n2 c2 B ss ws _ a0 a1 (h.below hx1 hB) (h2.below hx1 hB) (Nat.le_trans hB hx1.size) hn hn2 HD.out (hE.nx hx1) (hM.nx hx1) (hEt.nx hx1)).mono ?_
    rintro e w2 ⟨⟨g, b, p, q, Ax, cx, xs, Am, cm, ms, Ag, cg, gs, Ai, ci, im⟩, mid, rfl, hS, hP, hk2⟩
    have r2 := r1.nx hk2
    have hx2 := hx1.trans hk2
    have hl1 := hx1.size
    rw [← HA.out] at hS ⊢
    clear r1 e1 z0 z1 hltR0
    obtain ⟨cd, Hcd⟩ : ∃ cd, Hid ((ldA ss ws).2 = cd) := ⟨_, rfl⟩
    have HSv := Lib.hid hS
    rw [Hcd.out]
    simp only [Vl.v, Vl.cells]
    clear hS
    have rq := r2.row #[.int .i64 g, .int .i64 b, .int .i64 p, .int .i64 q, .slice Ax xs.length cx, .slice Am ms.length cm, .slice Ag gs.length cg, .slice Ai im.length ci]
    have hnf := hx2.setRow hgR #[.int .i64 g, .int .i64 b, .int .i64 p, .int .i64 q, .slice Ax xs.length cx, .slice Am ms.length cm, .slice Ag gs.length cg, .slice Ai im.length ci]
    have hvf := hP.rowfar hltR #[.int .i64 g, .int .i64 b, .int .i64 p, .int .i64 q, .slice Ax xs.length cx, .slice Am ms.length cm, .slice Ag gs.length cg, .slice Ai im.length ci]
    have hzf := size_setRow w2 gR #[.int .i64 g, .int .i64 b, .int .i64 p, .int .i64 q, .slice Ax xs.length cx, .slice Am ms.length cm, .slice Ag gs.length cg, .slice Ai im.length ci]
    go_wp2_with (refine wpList_store_row rfl _ _ _ rfl gR #[.int .i64 g, .int .i64 b, .int .i64 p, .int .i64 q, .slice Ax xs.length cx, .slice Am ms.length cm, .slice Ag gs.length cg, .slice Ai im.length ci] rfl rfl 33 #[.int .i64 0, .int .i64 0, .int .i64 0, .int .i64 0, .slice none 0 0, .slice none 0 0, .slice none 0 0, .slice none 0 0] r2 (by kernel_rfl) rfl (by simp [Value.oneCell']) ?_)
    generalize w2.setRow gR #[.int .i64 g, .int .i64 b, .int .i64 p, .int .i64 q, .slice Ax xs.length cx, .slice Am ms.length cm, .slice Ag gs.length cg, .slice Ai im.length ci] = Wf at *
    obtain ⟨g0, g1, g2, g3, g4, g5, g6, g7⟩ := rq.e8
    exact bodyPost_ret (v := .tuple #[.agg #[.int .i64 g, .int .i64 b, .int .i64 p, .int .i64 q, .slice Ax xs.length cx, .slice Am ms.length cm, .slice Ag gs.length cg, .slice Ai im.length ci], .int .i64 cd]) (by simp [results, Tryz.results13, go_sem, g0, g1, g2, g3, g4, g5, g6, g7]) rfl ⟨⟨g, b, p, q, Ax, cx, xs, Am, cm, ms, Ag, cg, gs, Ai, ci, im⟩, mid, by rw [Hcd.out]; rfl, HSv.out, (hvf.low hl1).up (by omega), hnf⟩
end Go.Proofs.YtehahodomfbpjaaGreatDoor
/- Contracts of the model: what is retained, contents that are alike. Conditions: what is read can be read, and holds at most 1048576 elements of a kind. -/
namespace Go.Proofs.YtehahodomfbpjaaGreatDoor
set_option linter.unusedVariables false
set_option maxRecDepth 100000
open Go.RowKit

set_option maxHeartbeats 2000000 in
theorem l05Retained_c (V : Vl) (B : Nat) (w : World) (h : Vlt w B V) (hB : B ≤ w.heap.size) (hn : VlN V 1048576) :
    Calls Tryz.prog 184 #[V.v] w (RetIc w (retL V.b V.gs)) := by
  obtain ⟨g, b, p, t, A, c, xs, A2, c2, ms, A3, c3, gs, A4, c4, im⟩ := V
  obtain ⟨h, h2, h3, h4⟩ := h
  obtain ⟨hn, hn2, hn3, hn4, hn5⟩ := hn
  simp only [Vl.v, Vl.cells] at *
  obtain ⟨n, Hn⟩ : ∃ n, Hid (gs.length = n) := ⟨_, rfl⟩
  have HS := Lib.hid (fun k (hk : k < n) => retTo_succ (b := b) (gs := gs) (k := k) (by rw [Hn.out]; exact hk))
  have HL := Lib.hid (fun k (hk : k ≤ n) => retTo_len (b := b) (gs := gs) (k := k) (by rw [Hn.out]; exact hk))
  have HA := Lib.hid (retTo_all b gs)
  have h3' : ∀ k, k < n → _ := fun k hk w' B' hw hB' => ((h3.below (w' := w') (B' := B') hw hB').row.at4 (k := k) (by rw [Hn.out]; exact hk))
  rw [Hn.out] at hn3 HA ⊢
  have b0 := (Box.new w 33 #[.int .i64 g, .int .i64 b, .int .i64 p, .int .i64 t, .slice A xs.length c, .slice A2 ms.length c2, .slice A3 n c3, .slice A4 im.length c4]).alloc (.cells #[.int .i64 b] 3)
  have hx0 := (Nx.refl w).alloc (.cells #[.int .i64 g, .int .i64 b, .int .i64 p, .int .i64 t, .slice A xs.length c, .slice A2 ms.length c2, .slice A3 n c3, .slice A4 im.length c4] 33)
  have hrow0 := RowI.one (w.alloc (.cells #[.int .i64 g, .int .i64 b, .int .i64 p, .int .i64 t, .slice A xs.length c, .slice A2 ms.length c2, .slice A3 n c3, .slice A4 im.length c4] 33)) (B := w.heap.size + 1) (by simp) b
  rw [World.size_alloc] at hrow0
  have hx1 := hx0.alloc (.cells #[.int .i64 b] 3)
  have hz1 : w.heap.size + 1 ≤ ((w.alloc (.cells #[.int .i64 g, .int .i64 b, .int .i64 p, .int .i64 t, .slice A xs.length c, .slice A2 ms.length c2, .slice A3 n c3, .slice A4 im.length c4] 33)).alloc (.cells #[.int .i64 b] 3)).heap.size := by simp
  clear hx0
  go_enter Tryz.func184, Tryz.ntmps184
  go_wp2_with fail
  generalize (w.alloc (.cells #[.int .i64 g, .int .i64 b, .int .i64 p, .int .i64 t, .slice A xs.length c, .slice A2 ms.length c2, .slice A3 n c3, .slice A4 im.length c4] 33)).alloc (.cells #[.int .i64 b] 3) = W at *
  go_loopw [3, 4] (fun v i wr => ∃ (k : Nat), k ≤ n ∧ i = .int .i64 k ∧ (∃ u, u = v ∧ RowI wr (w.heap.size + 1) u (retTo b gs k)) ∧ Nx w wr ∧ Box wr w.heap.size 33 #[.int .i64 g, .int .i64 b, .int .i64 p, .int .i64 t, .slice A xs.length c, .slice A2 ms.length c2, .slice A3 n c3, .slice A4 im.length c4] ∧ w.heap.size + 1 ≤ wr.heap.size) (fun _ i _ => n - (intOf i).toNat)
  case atStart => exact ⟨0, by omega, rfl, ⟨_, rfl, hrow0⟩, hx1, b0, hz1⟩
  case round =>
    obtain ⟨k, hk, rfl, ⟨u, rfl, hrow⟩, hnx, hb, hsz⟩ := hrel
    clear hrow0 hx1 hz1 b0
    obtain ⟨_, _, _, _, _, _, c6, _⟩ := hb.e8
    by_cases hlt : k < n
    case neg =>
      obtain rfl : k = n := by omega
      rw [HA.out] at hrow
      obtain ⟨A', c', rfl, hc', hS⟩ := hrow.slc
      go_wp2
      go_ret
      exact ⟨A', c', rfl, hc', hS.low (by omega), hnx⟩
    obtain ⟨bb, off, rfl, hbb, p0, p1, p2, p3⟩ := h3' k hlt _ _ hnx hB
    have HS' := Lib.hid (HS.out k hlt)
    have HLk := Lib.hid (HL.out k (by omega))
    obtain ⟨q, Hq⟩ : ∃ q, Hid ((gs.getD k sgZ).t = q) := ⟨_, rfl⟩
    rw [Hq.out] at p1 HS'
    clear p0 p2 p3
    have hx2 := (Nx.refl wr).alloc (.cells #[.int .i64 q] 3)
    have hbx := Box.new wr 3 #[.int .i64 q]
    have hrow1 := hrow.nx hx2
    have hnx2 := hnx.trans hx2
    have hb2 := hb.nx hx2
    have hsz2 := Nat.le_trans hsz hx2.size
    have HR := Lib.hid hrow1
    have HB := Lib.hid hbx
    clear hrow hrow1 hbx
    go_wp2_with (at_builtin; refine wpList_addI rfl _ _ rfl (w.heap.size + 1) wr.heap.size _ (retTo b gs k) q rfl rfl HR.out HB.out (by have := HLk.out; omega) hsz2 ?_)
    intro A' k' w' hr' hg'
    have hnx3 := hg'.nx w hnx2 (by omega)
    have hb3 := hg'.box _ _ _ (by decide) hb2
    have hsz3 := Nat.le_trans hsz2 hg'.size
    go_wp2
    go_roundw
    case rel => exact ⟨k + 1, by omega, by go_num, ⟨_, rfl, by rw [HS'.out]; exact hr'⟩, hnx3, hb3, hsz3⟩
    case measure => simp [intOf]; omega

set_option maxHeartbeats 1000000 in
theorem l05Is_c (V : Vl) (x : Int) (B : Nat) (w : World) (h : Vlt w B V) (hB : B ≤ w.heap.size) (hn : VlN V 1048576) (hN : V.gs.length ≤ 4096) :
    Calls Tryz.prog 209 #[V.v, .int .i64 x] w fun e w' => e = .returned (.bool (isRet V.b V.gs x)) ∧ Nx w w' := by
  have hR := l05Retained_c V B
  obtain ⟨g, b, p, t, A, c, xs, A2, c2, ms, A3, c3, gs, A4, c4, im⟩ := V
  simp only [Vl.v, Vl.cells] at *
  have hx0 := (Nx.refl w).alloc (.cells #[.int .i64 g, .int .i64 b, .int .i64 p, .int .i64 t, .slice A xs.length c, .slice A2 ms.length c2, .slice A3 gs.length c3, .slice A4 im.length c4] 33)
  have HR := Lib.hid hR
  clear hR
  go_enter Tryz.func209, Tryz.ntmps209
  go_wp2_with fail
  generalize w.alloc (.cells #[.int .i64 g, .int .i64 b, .int .i64 p, .int .i64 t, .slice A xs.length c, .slice A2 ms.length c2, .slice A3 gs.length c3, .slice A4 im.length c4] 33) = W at *
  refine (HR.out W (h.below hx0 hB) (Nat.le_trans hB hx0.size) hn).mono ?_
  rintro e w1 ⟨A9, c9, rfl, _, hS, hx1⟩
  have hl := retL_len b gs
  have HI := Lib.hid (isRet_hasB (b := b) (gs := gs) (x := x) hl)
  obtain ⟨m, Hm⟩ : ∃ m, Hid ((retL b gs).length = m) := ⟨_, rfl⟩
  have Hl := Lib.hid hl
  clear hl
  rw [Hm.out] at HI ⊢
  go_wp2_with fail
  refine (l04In_c A9 m c9 _ (retL b gs) x _ hS.row (by rw [Hm.out]; exact Nat.le_refl _) (by rw [Hl.out]; omega)).mono ?_
  rintro e w2 ⟨rfl, rfl⟩
  rw [HI.out]
  go_wp2
  go_ret
  exact ⟨rfl, hx0.trans hx1⟩

set_option maxHeartbeats 1000000 in
theorem l05Same_c (A A2 : Option Addr) (c c2 B : Nat) (xs ys : List Int) (w : World) (h : Ins w B A xs) (h2 : Ins w B A2 ys) (hB : B ≤ w.heap.size) (hl : xs.length = 8) (hl2 : ys.length = 8) :
    Calls Tryz.prog 214 #[.slice A 8 c, .slice A2 8 c2] w fun e w' => e = .returned (.bool (decide (xs = ys))) ∧ Nx w w' := by
  have Hl := Lib.hid hl
  have Hl2 := Lib.hid hl2
  clear hl hl2
  go_enter Tryz.func214, Tryz.ntmps214
  go_wp2
  go_loopw [5] (fun i wr => ∃ k : Nat, k ≤ 8 ∧ i = .int .i64 k ∧ (∀ j, j < k → xs.getD j 0 = ys.getD j 0) ∧ Nx w wr) (fun i _ => 8 - (intOf i).toNat)
  case atStart => exact ⟨0, Nat.zero_le _, rfl, fun j hj => absurd hj (by omega), Nx.refl _⟩
  case round =>
    obtain ⟨k, hk, rfl, hto, hnx⟩ := hrel
    by_cases hlt : k < 8
    · obtain ⟨b, off, rfl, hb, hc⟩ := (h.below hnx hB).at_ (k := k) (by rw [Hl.out]; exact hlt)
      obtain ⟨b2, off2, rfl, hb2, hc2⟩ := (h2.below hnx hB).at_ (k := k) (by rw [Hl2.out]; exact hlt)
      have HK := Lib.hid (fun (he : xs.getD k 0 = ys.getD k 0) (j : Nat) (hj : j < k + 1) => if hh : j < k then hto j hh else by obtain rfl : j = k := (by omega); exact he)
      have HNo := Lib.hid (fun (he : xs.getD k 0 ≠ ys.getD k 0) => decide_eq_false (fun hh : xs = ys => he (by rw [hh])))
      clear hto
      obtain ⟨y, Hy⟩ : ∃ y, Hid (xs.getD k 0 = y) := ⟨_, rfl⟩
      obtain ⟨z, Hz⟩ : ∃ z, Hid (ys.getD k 0 = z) := ⟨_, rfl⟩
      rw [Hy.out] at hc
      rw [Hz.out] at hc2
      rw [Hy.out, Hz.out] at HK HNo
      have hk1 : (k : Int) < 8 := by omega
      have hdk : decide (k < 8) = true := decide_eq_true hlt
      go_wp2_with fail
      go_still_tail 8, (by kernel_rfl)
      have hnx1 : Nx w wr.drew := Below.drew hnx
      by_cases he : y = z
      · have hd : (y != z) = false := by simp [he]
        have HT := Lib.hid (HK.out he)
        clear he HK HNo
        try change wpList _ _ _ _ _ wr.drew
        go_wp2
        go_roundw
        case rel => exact ⟨k + 1, by omega, by go_num, HT.out, hnx1⟩
        case measure => simp [intOf]; omega
      · have hd : (y != z) = true := by simp [he]
        have HT := Lib.hid (HNo.out he)
        clear he HK HNo
        try change wpList _ _ _ _ _ wr.drew
        go_wp2
        go_ret
        exact ⟨ret_bool HT.out.symm, hnx1⟩
    · obtain rfl : k = 8 := by omega
      have HT := Lib.hid (decide_eq_true (ext8 Hl.out Hl2.out hto))
      go_wp2
      go_ret
      exact ⟨ret_bool HT.out.symm, hnx⟩
set_option maxHeartbeats 1000000 in
theorem l05Old_c (A2 : Option Addr) (c2 B : Nat) (xs : List Int) (s : SgR) (w : World) (h : Ins w B A2 xs) (hg : Chs w B s.A s.cs) (hB : B ≤ w.heap.size) (hok : chsB s.cs = true) (h8 : xs.length = 8) :
    Calls Tryz.prog 211 #[.slice A2 8 c2, .agg #[.int .i64 s.f, .int .i64 s.t, .int .i64 s.m, .slice s.A s.cs.length s.c]] w fun e w' => e = .returned (.bool (oldB xs s)) ∧ Nx w w' := by
  obtain ⟨f, t, m, A, c, cs⟩ := s
  simp only at *
  have HO : Hid (oldB xs ⟨f, t, m, A, c, cs⟩ = decide (app pO xs cs = xs)) := Lib.hid rfl
  rw [HO.out]
  have hx0 := (Nx.refl w).alloc (.cells #[.int .i64 f, .int .i64 t, .int .i64 m, .slice A cs.length c] 130)
  have H8 := Lib.hid h8
  clear h8
  go_enter Tryz.func211, Tryz.ntmps211
  go_wp2_with fail
  generalize w.alloc (.cells #[.int .i64 f, .int .i64 t, .int .i64 m, .slice A cs.length c] 130) = W at *
  have hbk := l03Backward_c A2 c2 B xs f t m A c cs W (h.below hx0 hB) (hg.below hx0 hB) (Nat.le_trans hB hx0.size) hok H8.out
  rw [H8.out] at hbk
  refine hbk.mono ?_
  rintro e w1 ⟨A9, c9, rfl, hS, hx1⟩
  have hla : (app pO xs cs).length = 8 := by rw [app_len, H8.out]
  have hX := hx0.trans hx1
  have hrow := hS.row
  clear hbk hS
  obtain ⟨ys, Hys⟩ : ∃ ys, Hid (app pO xs cs = ys) := ⟨_, rfl⟩
  rw [Hys.out] at hla hrow ⊢
  rw [hla]
  have Hla := Lib.hid hla
  clear hla
  go_wp2_with fail
  refine (l05Same_c A9 A2 c9 c2 _ ys xs _ hrow ((h.below hX hB).more (Nat.le_trans hB hX.size)) (Nat.le_refl _) Hla.out H8.out).mono ?_
  rintro e w2 ⟨rfl, hx2⟩
  go_wp2
  go_ret
  exact ⟨ret_bool (by rw [Hys.out]), hX.trans hx2⟩
end Go.Proofs.YtehahodomfbpjaaGreatDoor
/- Contracts of the model: the segment that the next step goes over. Conditions: what is read can be read, and holds at most 1048576 elements of a kind. -/
namespace Go.Proofs.YtehahodomfbpjaaGreatDoor
set_option linter.unusedVariables false
set_option maxRecDepth 100000
open Go.RowKit

/-- The segment that the next step goes over, and whether forwards. -/
def stI (b p t : Int) (gs : List SgR) : Int × Bool := if p < t then ((ahd b gs p : Int), true) else if t < p then ((ahd b gs p : Int) - 1, false) else (-1, false)
theorem Box.g8 {w : World} {g : Nat} {t : TypeId} {v0 v1 v2 v3 v4 v5 v6 v7 : Value} (h : Box w g t #[v0, v1, v2, v3, v4, v5, v6, v7]) : w.cell? ⟨g, 0, none⟩ = some v0 ∧ w.cell? ⟨g, 1, none⟩ = some v1 ∧ w.cell? ⟨g, 2, none⟩ = some v2 ∧ w.cell? ⟨g, 3, none⟩ = some v3 ∧ w.cell? ⟨g, 4, none⟩ = some v4 ∧ w.cell? ⟨g, 5, none⟩ = some v5 ∧ w.cell? ⟨g, 6, none⟩ = some v6 ∧ w.cell? ⟨g, 7, none⟩ = some v7 := h.e8
set_option maxHeartbeats 4000000 in
theorem l05Step_c (V : Vl) (B : Nat) (w : World) (h : Vlt w B V) (hB : B ≤ w.heap.size) (hn : VlN V 1048576) (hl : Lead V.b V.gs) (hp : isRet V.b V.gs V.p = true) (hd : (V.p < V.t → ahd V.b V.gs V.p < V.gs.length) ∧ (V.t < V.p → 0 < ahd V.b V.gs V.p)) :
    Calls Tryz.prog 248 #[V.v] w fun e w' => e = .returned (.tuple #[.int .i64 (stI V.b V.p V.t V.gs).1, .bool (stI V.b V.p V.t V.gs).2]) ∧ Nx w w' := by
  obtain ⟨g, b, p, t, A, c, xs, A2, c2, ms, A3, c3, gs, A4, c4, im⟩ := V
  obtain ⟨h, h2, h3, h4⟩ := h
  obtain ⟨hn, hn2, hn3, hn4, hn5⟩ := hn
  simp only [Vl.v, Vl.cells] at *
  obtain ⟨a, Ha⟩ : ∃ a, Hid (ahd b gs p = a) := ⟨_, rfl⟩
  have ha := ahd_at hp
  have HST : Hid (stI b p t gs = if p < t then ((a : Int), true) else if t < p then ((a : Int) - 1, false) else (-1, false)) := Lib.hid (by rw [← Ha.out]; rfl)
  rw [HST.out]
  rw [Ha.out] at ha hd
  obtain ⟨n, Hn⟩ : ∃ n, Hid (gs.length = n) := ⟨_, rfl⟩
  have h3' : ∀ k, k < n → _ := fun k hk w' B' hw hB' => ((h3.below (w' := w') (B' := B') hw hB').row.at4 (k := k) (by rw [Hn.out]; exact hk))
  have HF := Lib.hid (fun k (hk : k < n) => hl.from_ k (by rw [Hn.out]; exact hk))
  have HI := Lib.hid (fun k (hk : k ≤ n) (he : atK b gs k = p) => hl.inj (j := k) (k := a) (by rw [Hn.out]; exact hk) ha.1 (he.trans ha.2.symm))
  have HA := Lib.hid ha.2
  have ha1 := ha.1
  rw [Hn.out] at hn3 hd ha1 ⊢
  have b0 := Box.new w 33 #[.int .i64 g, .int .i64 b, .int .i64 p, .int .i64 t, .slice A xs.length c, .slice A2 ms.length c2, .slice A3 n c3, .slice A4 im.length c4]
  have hx0 := (Nx.refl w).alloc (.cells #[.int .i64 g, .int .i64 b, .int .i64 p, .int .i64 t, .slice A xs.length c, .slice A2 ms.length c2, .slice A3 n c3, .slice A4 im.length c4] 33)
  clear hl hp ha h3
  by_cases hlt : p < t
  · rw [if_pos hlt]
    have hd1 : decide (p < t) = true := decide_eq_true hlt
    have hd2 : decide (t < p) = false := decide_eq_false (by omega)
    have han := hd.1 hlt
    clear hd hlt
    go_enter Tryz.func248, Tryz.ntmps248
    go_wp2_with fail
    generalize w.alloc (.cells #[.int .i64 g, .int .i64 b, .int .i64 p, .int .i64 t, .slice A xs.length c, .slice A2 ms.length c2, .slice A3 n c3, .slice A4 im.length c4] 33) = W at *
    go_loopw [4] (fun i wr => ∃ (k : Nat), k ≤ a ∧ i = .int .i64 k ∧ Nx w wr ∧ Box wr w.heap.size 33 #[.int .i64 g, .int .i64 b, .int .i64 p, .int .i64 t, .slice A xs.length c, .slice A2 ms.length c2, .slice A3 n c3, .slice A4 im.length c4]) (fun i _ => n - (intOf i).toNat)
    case atStart => exact ⟨0, by omega, rfl, hx0, b0⟩
    case round =>
      obtain ⟨k, hk, rfl, hnx, hb⟩ := hrel
      clear hx0 b0
      have hkn : k < n := by omega
      obtain ⟨_, _, _, _, _, _, c6, _⟩ := hb.e8
      obtain ⟨bb, off, rfl, hbb, p0, p1, p2, p3⟩ := h3' k hkn _ _ hnx hB
      have hF := HF.out k hkn
      have hT : (gs.getD k sgZ).t = atK b gs (k + 1) := rfl
      obtain ⟨⟨f, t9, m, Ac, cc, cs⟩, Hs⟩ : ∃ s, Hid (gs.getD k sgZ = s) := ⟨_, rfl⟩
      rw [Hs.out] at p0 p1 p2 p3 hF hT
      simp only at p0 p1 p2 p3 hF hT
      have hkc : (k : Int) < (n : Int) := by omega
      have hk0 : (0 : Int) ≤ (k : Int) := by omega
      have hbd : Box wr.drew w.heap.size 33 #[.int .i64 g, .int .i64 b, .int .i64 p, .int .i64 t, .slice A xs.length c, .slice A2 ms.length c2, .slice (some ⟨bb, off, none⟩) n c3, .slice A4 im.length c4] := hb
      by_cases hka : k = a
      · have hfe : (f == p) = true := by rw [beq_iff_eq, hF, hka]; exact HA.out
        have HKA := Lib.hid hka
        clear hF hT hka
        go_wp2_with fail
        refine wp_region_lex [false, false, false, false, false, false, false, false, false, false, false, false, false, false, false, false, false, false, false] (fun w' => (w'.cell? ⟨w.heap.size, 0, none⟩ = some (.int .i64 g) ∧ w'.cell? ⟨w.heap.size, 1, none⟩ = some (.int .i64 b) ∧ w'.cell? ⟨w.heap.size, 2, none⟩ = some (.int .i64 p) ∧ w'.cell? ⟨w.heap.size, 3, none⟩ = some (.int .i64 t) ∧ w'.cell? ⟨w.heap.size, 4, none⟩ = some (.slice A xs.length c) ∧ w'.cell? ⟨w.heap.size, 5, none⟩ = some (.slice A2 ms.length c2) ∧ w'.cell? ⟨w.heap.size, 6, none⟩ = some (.slice (some ⟨bb, off, none⟩) n c3) ∧ w'.cell? ⟨w.heap.size, 7, none⟩ = some (.slice A4 im.length c4)) ∧ w'.cell? ⟨bb, off + k * 4, none⟩ = some (.int .i64 f) ∧ w'.cell? ⟨bb, off + k * 4 + 1, none⟩ = some (.int .i64 t9) ∧ w'.cell? ⟨bb, off + k * 4 + 2, none⟩ = some (.int .i64 m) ∧ w'.cell? ⟨bb, off + k * 4 + 3, none⟩ = some (.slice Ac cs.length cc)) (by kernel_rfl) (by kernel_rfl) rfl (by kernel_rfl) (fun _ _ d _ _ h => by cases d <;> exact h) (by exact ⟨hbd.e8, p0, p1, p2, p3⟩) ?_
        repeat (first | (refine HL.take (v := ?_) (by rfl) ?_ ?_; rotate_left; (· (intro w hSw; (try dsimp only at hSw); go_simp; try with_reducible rfl)); (try simp only [Act.put, List.setIfInBounds_toArray, List.set_cons_zero, List.set_cons_succ])) | (refine HL.skip (by rfl) ?_; (try simp only [Act.put, List.setIfInBounds_toArray, List.set_cons_zero, List.set_cons_succ])))
        refine HL.done ?_
        go_wp2
        exact bodyPost_ret (v := .tuple #[.int .i64 k, .bool true]) (by simp [results, Tryz.results248, go_sem]) rfl ⟨by rw [HKA.out], hnx.drew⟩
      · have hfe : (f == p) = false := by rw [beq_eq_false_iff_ne, hF]; exact fun he => hka (HI.out k (by omega) he)
        have HKA := Lib.hid hka
        clear hF hT hka
        go_wp2_with fail
        refine wp_region_lex [false, false, false, false, false, false, false, false, false, false, false, false, false, false, false, false, false, false, false] (fun w' => (w'.cell? ⟨w.heap.size, 0, none⟩ = some (.int .i64 g) ∧ w'.cell? ⟨w.heap.size, 1, none⟩ = some (.int .i64 b) ∧ w'.cell? ⟨w.heap.size, 2, none⟩ = some (.int .i64 p) ∧ w'.cell? ⟨w.heap.size, 3, none⟩ = some (.int .i64 t) ∧ w'.cell? ⟨w.heap.size, 4, none⟩ = some (.slice A xs.length c) ∧ w'.cell? ⟨w.heap.size, 5, none⟩ = some (.slice A2 ms.length c2) ∧ w'.cell? ⟨w.heap.size, 6, none⟩ = some (.slice (some ⟨bb, off, none⟩) n c3) ∧ w'.cell? ⟨w.heap.size, 7, none⟩ = some (.slice A4 im.length c4)) ∧ w'.cell? ⟨bb, off + k * 4, none⟩ = some (.int .i64 f) ∧ w'.cell? ⟨bb, off + k * 4 + 1, none⟩ = some (.int .i64 t9) ∧ w'.cell? ⟨bb, off + k * 4 + 2, none⟩ = some (.int .i64 m) ∧ w'.cell? ⟨bb, off + k * 4 + 3, none⟩ = some (.slice Ac cs.length cc)) (by kernel_rfl) (by kernel_rfl) rfl (by kernel_rfl) (fun _ _ d _ _ h => by cases d <;> exact h) (by exact ⟨hbd.e8, p0, p1, p2, p3⟩) ?_
        repeat (first | (refine HL.take (v := ?_) (by rfl) ?_ ?_; rotate_left; (· (intro w hSw; (try dsimp only at hSw); go_simp; try with_reducible rfl)); (try simp only [Act.put, List.setIfInBounds_toArray, List.set_cons_zero, List.set_cons_succ])) | (refine HL.skip (by rfl) ?_; (try simp only [Act.put, List.setIfInBounds_toArray, List.set_cons_zero, List.set_cons_succ])))
        refine HL.done ?_
        have p0 : wr.drew.cell? ⟨bb, off + k * 4, none⟩ = _ := p0
        have p1 : wr.drew.cell? ⟨bb, off + k * 4 + 1, none⟩ = _ := p1
        have p2 : wr.drew.cell? ⟨bb, off + k * 4 + 2, none⟩ = _ := p2
        have p3 : wr.drew.cell? ⟨bb, off + k * 4 + 3, none⟩ = _ := p3
        have hnxd := hnx.drew
        go_wp2_with fail
        generalize wr.drew = wr at *
        have hbd : Box wr.drew w.heap.size 33 #[.int .i64 g, .int .i64 b, .int .i64 p, .int .i64 t, .slice A xs.length c, .slice A2 ms.length c2, .slice (some ⟨bb, off, none⟩) n c3, .slice A4 im.length c4] := hbd
        refine wp_region_lex [false, false, false, false, false, false, false, false, false, false, false, false, false, false, false, false, false, false, false] (fun w' => (w'.cell? ⟨w.heap.size, 0, none⟩ = some (.int .i64 g) ∧ w'.cell? ⟨w.heap.size, 1, none⟩ = some (.int .i64 b) ∧ w'.cell? ⟨w.heap.size, 2, none⟩ = some (.int .i64 p) ∧ w'.cell? ⟨w.heap.size, 3, none⟩ = some (.int .i64 t) ∧ w'.cell? ⟨w.heap.size, 4, none⟩ = some (.slice A xs.length c) ∧ w'.cell? ⟨w.heap.size, 5, none⟩ = some (.slice A2 ms.length c2) ∧ w'.cell? ⟨w.heap.size, 6, none⟩ = some (.slice (some ⟨bb, off, none⟩) n c3) ∧ w'.cell? ⟨w.heap.size, 7, none⟩ = some (.slice A4 im.length c4)) ∧ w'.cell? ⟨bb, off + k * 4, none⟩ = some (.int .i64 f) ∧ w'.cell? ⟨bb, off + k * 4 + 1, none⟩ = some (.int .i64 t9) ∧ w'.cell? ⟨bb, off + k * 4 + 2, none⟩ = some (.int .i64 m) ∧ w'.cell? ⟨bb, off + k * 4 + 3, none⟩ = some (.slice Ac cs.length cc)) (by kernel_rfl) (by kernel_rfl) rfl (by kernel_rfl) (fun _ _ d _ _ h => by cases d <;> exact h) (by exact ⟨hbd.e8, p0, p1, p2, p3⟩) ?_
        repeat (first | (refine HL.take (v := ?_) (by rfl) ?_ ?_; rotate_left; (· (intro w hSw; (try dsimp only at hSw); go_simp; try with_reducible rfl)); (try simp only [Act.put, List.setIfInBounds_toArray, List.set_cons_zero, List.set_cons_succ])) | (refine HL.skip (by rfl) ?_; (try simp only [Act.put, List.setIfInBounds_toArray, List.set_cons_zero, List.set_cons_succ])))
        refine HL.done ?_
        go_wp2
        go_roundw
        case rel => exact ⟨k + 1, by have := HKA.out; omega, by go_num, hnxd.drew, hbd⟩
        case measure => simp [intOf]; omega
  by_cases hgt : t < p
  · rw [if_neg hlt, if_pos hgt]
    have hd1 : decide (p < t) = false := decide_eq_false hlt
    have hd2 : decide (t < p) = true := decide_eq_true hgt
    have han := hd.2 hgt
    clear hd hgt hlt
    go_enter Tryz.func248, Tryz.ntmps248
    go_wp2_with fail
    generalize w.alloc (.cells #[.int .i64 g, .int .i64 b, .int .i64 p, .int .i64 t, .slice A xs.length c, .slice A2 ms.length c2, .slice A3 n c3, .slice A4 im.length c4] 33) = W at *
    go_loopw [4] (fun i wr => ∃ (k : Nat), k ≤ (a - 1) ∧ i = .int .i64 k ∧ Nx w wr ∧ Box wr w.heap.size 33 #[.int .i64 g, .int .i64 b, .int .i64 p, .int .i64 t, .slice A xs.length c, .slice A2 ms.length c2, .slice A3 n c3, .slice A4 im.length c4]) (fun i _ => n - (intOf i).toNat)
    case atStart => exact ⟨0, by omega, rfl, hx0, b0⟩
    case round =>
      obtain ⟨k, hk, rfl, hnx, hb⟩ := hrel
      clear hx0 b0
      have hkn : k < n := by omega
      obtain ⟨_, _, _, _, _, _, c6, _⟩ := hb.e8
      obtain ⟨bb, off, rfl, hbb, p0, p1, p2, p3⟩ := h3' k hkn _ _ hnx hB
      have hF := HF.out k hkn
      have hT : (gs.getD k sgZ).t = atK b gs (k + 1) := rfl
      obtain ⟨⟨f, t9, m, Ac, cc, cs⟩, Hs⟩ : ∃ s, Hid (gs.getD k sgZ = s) := ⟨_, rfl⟩
      rw [Hs.out] at p0 p1 p2 p3 hF hT
      simp only at p0 p1 p2 p3 hF hT
      have hkc : (k : Int) < (n : Int) := by omega
      have hk0 : (0 : Int) ≤ (k : Int) := by omega
      have hbd : Box wr.drew w.heap.size 33 #[.int .i64 g, .int .i64 b, .int .i64 p, .int .i64 t, .slice A xs.length c, .slice A2 ms.length c2, .slice (some ⟨bb, off, none⟩) n c3, .slice A4 im.length c4] := hb
      by_cases hka : k + 1 = a
      · have hfe : (t9 == p) = true := by rw [beq_iff_eq, hT, hka]; exact HA.out
        have HKA := Lib.hid hka
        clear hF hT hka
        go_wp2_with fail
        refine wp_region_lex [false, false, false, false, false, false, false, false, false, false, false, false, false, false, false, false, false, false, false] (fun w' => (w'.cell? ⟨w.heap.size, 0, none⟩ = some (.int .i64 g) ∧ w'.cell? ⟨w.heap.size, 1, none⟩ = some (.int .i64 b) ∧ w'.cell? ⟨w.heap.size, 2, none⟩ = some (.int .i64 p) ∧ w'.cell? ⟨w.heap.size, 3, none⟩ = some (.int .i64 t) ∧ w'.cell? ⟨w.heap.size, 4, none⟩ = some (.slice A xs.length c) ∧ w'.cell? ⟨w.heap.size, 5, none⟩ = some (.slice A2 ms.length c2) ∧ w'.cell? ⟨w.heap.size, 6, none⟩ = some (.slice (some ⟨bb, off, none⟩) n c3) ∧ w'.cell? ⟨w.heap.size, 7, none⟩ = some (.slice A4 im.length c4)) ∧ w'.cell? ⟨bb, off + k * 4, none⟩ = some (.int .i64 f) ∧ w'.cell? ⟨bb, off + k * 4 + 1, none⟩ = some (.int .i64 t9) ∧ w'.cell? ⟨bb, off + k * 4 + 2, none⟩ = some (.int .i64 m) ∧ w'.cell? ⟨bb, off + k * 4 + 3, none⟩ = some (.slice Ac cs.length cc)) (by kernel_rfl) (by kernel_rfl) rfl (by kernel_rfl) (fun _ _ d _ _ h => by cases d <;> exact h) (by exact ⟨hbd.e8, p0, p1, p2, p3⟩) ?_
        repeat (first | (refine HL.take (v := ?_) (by rfl) ?_ ?_; rotate_left; (· (intro w hSw; (try dsimp only at hSw); go_simp; try with_reducible rfl)); (try simp only [Act.put, List.setIfInBounds_toArray, List.set_cons_zero, List.set_cons_succ])) | (refine HL.skip (by rfl) ?_; (try simp only [Act.put, List.setIfInBounds_toArray, List.set_cons_zero, List.set_cons_succ])))
        refine HL.done ?_
        have p0 : wr.drew.cell? ⟨bb, off + k * 4, none⟩ = _ := p0
        have p1 : wr.drew.cell? ⟨bb, off + k * 4 + 1, none⟩ = _ := p1
        have p2 : wr.drew.cell? ⟨bb, off + k * 4 + 2, none⟩ = _ := p2
        have p3 : wr.drew.cell? ⟨bb, off + k * 4 + 3, none⟩ = _ := p3
        have hnxd := hnx.drew
        go_wp2_with fail
        generalize wr.drew = wr at *
        have hbd : Box wr.drew w.heap.size 33 #[.int .i64 g, .int .i64 b, .int .i64 p, .int .i64 t, .slice A xs.length c, .slice A2 ms.length c2, .slice (some ⟨bb, off, none⟩) n c3, .slice A4 im.length c4] := hbd
        refine wp_region_lex [false, false, false, false, false, false, false, false, false, false, false, false, false, false, false, false, false, false, false] (fun w' => (w'.cell? ⟨w.heap.size, 0, none⟩ = some (.int .i64 g) ∧ w'.cell? ⟨w.heap.size, 1, none⟩ = some (.int .i64 b) ∧ w'.cell? ⟨w.heap.size, 2, none⟩ = some (.int .i64 p) ∧ w'.cell? ⟨w.heap.size, 3, none⟩ = some (.int .i64 t) ∧ w'.cell? ⟨w.heap.size, 4, none⟩ = some (.slice A xs.length c) ∧ w'.cell? ⟨w.heap.size, 5, none⟩ = some (.slice A2 ms.length c2) ∧ w'.cell? ⟨w.heap.size, 6, none⟩ = some (.slice (some ⟨bb, off, none⟩) n c3) ∧ w'.cell? ⟨w.heap.size, 7, none⟩ = some (.slice A4 im.length c4)) ∧ w'.cell? ⟨bb, off + k * 4, none⟩ = some (.int .i64 f) ∧ w'.cell? ⟨bb, off + k * 4 + 1, none⟩ = some (.int .i64 t9) ∧ w'.cell? ⟨bb, off + k * 4 + 2, none⟩ = some (.int .i64 m) ∧ w'.cell? ⟨bb, off + k * 4 + 3, none⟩ = some (.slice Ac cs.length cc)) (by kernel_rfl) (by kernel_rfl) rfl (by kernel_rfl) (fun _ _ d _ _ h => by cases d <;> exact h) (by exact ⟨hbd.e8, p0, p1, p2, p3⟩) ?_
        repeat (first | (refine HL.take (v := ?_) (by rfl) ?_ ?_; rotate_left; (· (intro w hSw; (try dsimp only at hSw); go_simp; try with_reducible rfl)); (try simp only [Act.put, List.setIfInBounds_toArray, List.set_cons_zero, List.set_cons_succ])) | (refine HL.skip (by rfl) ?_; (try simp only [Act.put, List.setIfInBounds_toArray, List.set_cons_zero, List.set_cons_succ])))
        refine HL.done ?_
        go_wp2
        exact bodyPost_ret (v := .tuple #[.int .i64 k, .bool false]) (by simp [results, Tryz.results248, go_sem]) rfl ⟨by rw [show (a : Int) - 1 = (k : Int) by have := HKA.out; omega], hnxd.drew⟩
      · have hfe : (t9 == p) = false := by rw [beq_eq_false_iff_ne, hT]; exact fun he => hka (HI.out (k + 1) (by omega) he)
        have HKA := Lib.hid hka
        clear hF hT hka
        go_wp2_with fail
        refine wp_region_lex [false, false, false, false, false, false, false, false, false, false, false, false, false, false, false, false, false, false, false] (fun w' => (w'.cell? ⟨w.heap.size, 0, none⟩ = some (.int .i64 g) ∧ w'.cell? ⟨w.heap.size, 1, none⟩ = some (.int .i64 b) ∧ w'.cell? ⟨w.heap.size, 2, none⟩ = some (.int .i64 p) ∧ w'.cell? ⟨w.heap.size, 3, none⟩ = some (.int .i64 t) ∧ w'.cell? ⟨w.heap.size, 4, none⟩ = some (.slice A xs.length c) ∧ w'.cell? ⟨w.heap.size, 5, none⟩ = some (.slice A2 ms.length c2) ∧ w'.cell? ⟨w.heap.size, 6, none⟩ = some (.slice (some ⟨bb, off, none⟩) n c3) ∧ w'.cell? ⟨w.heap.size, 7, none⟩ = some (.slice A4 im.length c4)) ∧ w'.cell? ⟨bb, off + k * 4, none⟩ = some (.int .i64 f) ∧ w'.cell? ⟨bb, off + k * 4 + 1, none⟩ = some (.int .i64 t9) ∧ w'.cell? ⟨bb, off + k * 4 + 2, none⟩ = some (.int .i64 m) ∧ w'.cell? ⟨bb, off + k * 4 + 3, none⟩ = some (.slice Ac cs.length cc)) (by kernel_rfl) (by kernel_rfl) rfl (by kernel_rfl) (fun _ _ d _ _ h => by cases d <;> exact h) (by exact ⟨hbd.e8, p0, p1, p2, p3⟩) ?_
        repeat (first | (refine HL.take (v := ?_) (by rfl) ?_ ?_; rotate_left; (· (intro w hSw; (try dsimp only at hSw); go_simp; try with_reducible rfl)); (try simp only [Act.put, List.setIfInBounds_toArray, List.set_cons_zero, List.set_cons_succ])) | (refine HL.skip (by rfl) ?_; (try simp only [Act.put, List.setIfInBounds_toArray, List.set_cons_zero, List.set_cons_succ])))
        refine HL.done ?_
        have p0 : wr.drew.cell? ⟨bb, off + k * 4, none⟩ = _ := p0
        have p1 : wr.drew.cell? ⟨bb, off + k * 4 + 1, none⟩ = _ := p1
        have p2 : wr.drew.cell? ⟨bb, off + k * 4 + 2, none⟩ = _ := p2
        have p3 : wr.drew.cell? ⟨bb, off + k * 4 + 3, none⟩ = _ := p3
        have hnxd := hnx.drew
        go_wp2_with fail
        generalize wr.drew = wr at *
        have hbd : Box wr.drew w.heap.size 33 #[.int .i64 g, .int .i64 b, .int .i64 p, .int .i64 t, .slice A xs.length c, .slice A2 ms.length c2, .slice (some ⟨bb, off, none⟩) n c3, .slice A4 im.length c4] := hbd
        refine wp_region_lex [false, false, false, false, false, false, false, false, false, false, false, false, false, false, false, false, false, false, false] (fun w' => (w'.cell? ⟨w.heap.size, 0, none⟩ = some (.int .i64 g) ∧ w'.cell? ⟨w.heap.size, 1, none⟩ = some (.int .i64 b) ∧ w'.cell? ⟨w.heap.size, 2, none⟩ = some (.int .i64 p) ∧ w'.cell? ⟨w.heap.size, 3, none⟩ = some (.int .i64 t) ∧ w'.cell? ⟨w.heap.size, 4, none⟩ = some (.slice A xs.length c) ∧ w'.cell? ⟨w.heap.size, 5, none⟩ = some (.slice A2 ms.length c2) ∧ w'.cell? ⟨w.heap.size, 6, none⟩ = some (.slice (some ⟨bb, off, none⟩) n c3) ∧ w'.cell? ⟨w.heap.size, 7, none⟩ = some (.slice A4 im.length c4)) ∧ w'.cell? ⟨bb, off + k * 4, none⟩ = some (.int .i64 f) ∧ w'.cell? ⟨bb, off + k * 4 + 1, none⟩ = some (.int .i64 t9) ∧ w'.cell? ⟨bb, off + k * 4 + 2, none⟩ = some (.int .i64 m) ∧ w'.cell? ⟨bb, off + k * 4 + 3, none⟩ = some (.slice Ac cs.length cc)) (by kernel_rfl) (by kernel_rfl) rfl (by kernel_rfl) (fun _ _ d _ _ h => by cases d <;> exact h) (by exact ⟨hbd.e8, p0, p1, p2, p3⟩) ?_
        repeat (first | (refine HL.take (v := ?_) (by rfl) ?_ ?_; rotate_left; (· (intro w hSw; (try dsimp only at hSw); go_simp; try with_reducible rfl)); (try simp only [Act.put, List.setIfInBounds_toArray, List.set_cons_zero, List.set_cons_succ])) | (refine HL.skip (by rfl) ?_; (try simp only [Act.put, List.setIfInBounds_toArray, List.set_cons_zero, List.set_cons_succ])))
        refine HL.done ?_
        go_wp2
        go_roundw
        case rel => exact ⟨k + 1, by have := HKA.out; omega, by go_num, hnxd.drew, hbd⟩
        case measure => simp [intOf]; omega
  rw [if_neg hlt, if_neg hgt]
  have hd1 : decide (p < t) = false := decide_eq_false hlt
  have hd2 : decide (t < p) = false := decide_eq_false hgt
  clear hd hlt hgt
  go_enter Tryz.func248, Tryz.ntmps248
  go_wp2_with fail
  generalize w.alloc (.cells #[.int .i64 g, .int .i64 b, .int .i64 p, .int .i64 t, .slice A xs.length c, .slice A2 ms.length c2, .slice A3 n c3, .slice A4 im.length c4] 33) = W at *
  go_loopw [4] (fun i wr => ∃ (k : Nat), k ≤ n ∧ i = .int .i64 k ∧ Nx w wr ∧ Box wr w.heap.size 33 #[.int .i64 g, .int .i64 b, .int .i64 p, .int .i64 t, .slice A xs.length c, .slice A2 ms.length c2, .slice A3 n c3, .slice A4 im.length c4]) (fun i _ => n - (intOf i).toNat)
  case atStart => exact ⟨0, by omega, rfl, hx0, b0⟩
  case round =>
    obtain ⟨k, hk, rfl, hnx, hb⟩ := hrel
    clear hx0 b0
    by_cases hkn : k < n
    case neg =>
      obtain rfl : k = n := by omega
      obtain ⟨_, _, _, _, _, _, c6, _⟩ := hb.e8
      go_wp2
      exact bodyPost_ret (v := .tuple #[.int .i64 (-1), .bool false]) (by simp [results, Tryz.results248, go_sem]) rfl ⟨rfl, hnx⟩
    obtain ⟨_, _, _, _, _, _, c6, _⟩ := hb.e8
    obtain ⟨bb, off, rfl, hbb, p0, p1, p2, p3⟩ := h3' k hkn _ _ hnx hB
    have hF := HF.out k hkn
    have hT : (gs.getD k sgZ).t = atK b gs (k + 1) := rfl
    obtain ⟨⟨f, t9, m, Ac, cc, cs⟩, Hs⟩ : ∃ s, Hid (gs.getD k sgZ = s) := ⟨_, rfl⟩
    rw [Hs.out] at p0 p1 p2 p3 hF hT
    simp only at p0 p1 p2 p3 hF hT
    have hkc : (k : Int) < (n : Int) := by omega
    have hk0 : (0 : Int) ≤ (k : Int) := by omega
    have hbd : Box wr.drew w.heap.size 33 #[.int .i64 g, .int .i64 b, .int .i64 p, .int .i64 t, .slice A xs.length c, .slice A2 ms.length c2, .slice (some ⟨bb, off, none⟩) n c3, .slice A4 im.length c4] := hb
    clear hF hT
    go_wp2_with fail
    refine wp_region_lex [false, false, false, false, false, false, false, false, false, false, false, false, false, false, false, false, false, false, false] (fun w' => (w'.cell? ⟨w.heap.size, 0, none⟩ = some (.int .i64 g) ∧ w'.cell? ⟨w.heap.size, 1, none⟩ = some (.int .i64 b) ∧ w'.cell? ⟨w.heap.size, 2, none⟩ = some (.int .i64 p) ∧ w'.cell? ⟨w.heap.size, 3, none⟩ = some (.int .i64 t) ∧ w'.cell? ⟨w.heap.size, 4, none⟩ = some (.slice A xs.length c) ∧ w'.cell? ⟨w.heap.size, 5, none⟩ = some (.slice A2 ms.length c2) ∧ w'.cell? ⟨w.heap.size, 6, none⟩ = some (.slice (some ⟨bb, off, none⟩) n c3) ∧ w'.cell? ⟨w.heap.size, 7, none⟩ = some (.slice A4 im.length c4)) ∧ w'.cell? ⟨bb, off + k * 4, none⟩ = some (.int .i64 f) ∧ w'.cell? ⟨bb, off + k * 4 + 1, none⟩ = some (.int .i64 t9) ∧ w'.cell? ⟨bb, off + k * 4 + 2, none⟩ = some (.int .i64 m) ∧ w'.cell? ⟨bb, off + k * 4 + 3, none⟩ = some (.slice Ac cs.length cc)) (by kernel_rfl) (by kernel_rfl) rfl (by kernel_rfl) (fun _ _ d _ _ h => by cases d <;> exact h) (by exact ⟨hbd.e8, p0, p1, p2, p3⟩) ?_
    repeat (first | (refine HL.take (v := ?_) (by rfl) ?_ ?_; rotate_left; (· (intro w hSw; (try dsimp only at hSw); go_simp; try with_reducible rfl)); (try simp only [Act.put, List.setIfInBounds_toArray, List.set_cons_zero, List.set_cons_succ])) | (refine HL.skip (by rfl) ?_; (try simp only [Act.put, List.setIfInBounds_toArray, List.set_cons_zero, List.set_cons_succ])))
    refine HL.done ?_
    have p0 : wr.drew.cell? ⟨bb, off + k * 4, none⟩ = _ := p0
    have p1 : wr.drew.cell? ⟨bb, off + k * 4 + 1, none⟩ = _ := p1
    have p2 : wr.drew.cell? ⟨bb, off + k * 4 + 2, none⟩ = _ := p2
    have p3 : wr.drew.cell? ⟨bb, off + k * 4 + 3, none⟩ = _ := p3
    have hnxd := hnx.drew
    go_wp2_with fail
    generalize wr.drew = wr at *
    have hbd : Box wr.drew w.heap.size 33 #[.int .i64 g, .int .i64 b, .int .i64 p, .int .i64 t, .slice A xs.length c, .slice A2 ms.length c2, .slice (some ⟨bb, off, none⟩) n c3, .slice A4 im.length c4] := hbd
    refine wp_region_lex [false, false, false, false, false, false, false, false, false, false, false, false, false, false, false, false, false, false, false] (fun w' => (w'.cell? ⟨w.heap.size, 0, none⟩ = some (.int .i64 g) ∧ w'.cell? ⟨w.heap.size, 1, none⟩ = some (.int .i64 b) ∧ w'.cell? ⟨w.heap.size, 2, none⟩ = some (.int .i64 p) ∧ w'.cell? ⟨w.heap.size, 3, none⟩ = some (.int .i64 t) ∧ w'.cell? ⟨w.heap.size, 4, none⟩ = some (.slice A xs.length c) ∧ w'.cell? ⟨w.heap.size, 5, none⟩ = some (.slice A2 ms.length c2) ∧ w'.cell? ⟨w.heap.size, 6, none⟩ = some (.slice (some ⟨bb, off, none⟩) n c3) ∧ w'.cell? ⟨w.heap.size, 7, none⟩ = some (.slice A4 im.length c4)) ∧ w'.cell? ⟨bb, off + k * 4, none⟩ = some (.int .i64 f) ∧ w'.cell? ⟨bb, off + k * 4 + 1, none⟩ = some (.int .i64 t9) ∧ w'.cell? ⟨bb, off + k * 4 + 2, none⟩ = some (.int .i64 m) ∧ w'.cell? ⟨bb, off + k * 4 + 3, none⟩ = some (.slice Ac cs.length cc)) (by kernel_rfl) (by kernel_rfl) rfl (by kernel_rfl) (fun _ _ d _ _ h => by cases d <;> exact h) (by exact ⟨hbd.e8, p0, p1, p2, p3⟩) ?_
    repeat (first | (refine HL.take (v := ?_) (by rfl) ?_ ?_; rotate_left; (· (intro w hSw; (try dsimp only at hSw); go_simp; try with_reducible rfl)); (try simp only [Act.put, List.setIfInBounds_toArray, List.set_cons_zero, List.set_cons_succ])) | (refine HL.skip (by rfl) ?_; (try simp only [Act.put, List.setIfInBounds_toArray, List.set_cons_zero, List.set_cons_succ])))
    refine HL.done ?_
    go_wp2
    go_roundw
    case rel => exact ⟨k + 1, by omega, by go_num, hnxd.drew, hbd⟩
    case measure => simp [intOf]; omega
end Go.Proofs.YtehahodomfbpjaaGreatDoor
