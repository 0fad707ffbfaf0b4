/-
  The program's VaultOK.
  Conditions: what is read can be read, and holds at most 1048576 elements of a kind.
-/
import Derived.Test.YtihpadelfpogmaaVvf
import Derived.Test.YtihpadelfpogmaaVvg
import Derived.Test.YtihpadelfpogmaaCnt
import Derived.Test.YtihpadelfpogmaaChi
import Derived.Test.YtihpadelfpogmaaSio
import Derived.Test.YtihpadelfpogmaaChs
namespace Go.Proofs.Ytihpadelfpogmaa
set_option linter.unusedVariables false
set_option maxRecDepth 100000
open Go.RowKit

set_option maxHeartbeats 4000000 in
theorem vaultRight_c (V : Vl) (B : Nat) (w : World) (h : Vlt w B V) (hB : B ≤ w.heap.size) (hn : VlN V 1048576) (hc : V.xs.length ≤ V.c) (hc3 : V.gs.length ≤ V.c3) (hm : AllM V.ms) :
    Calls Try.prog 78 #[V.v] w fun e w' => e = .returned (.bool V.ok) ∧ Nx w w' := by
  have hVW := view_c V B
  have hPL := hasPlaces_c V B
  have hFF := fitsForward_c V B
  have hFB := fitsBack_c V B
  obtain ⟨g, b, p, t, A, c, xs, A2, c2, ms, A3, c3, gs, A4, c4, im⟩ := V
  obtain ⟨h, h2, h3, h4⟩ := h
  obtain ⟨hn, hn2, hn3, hn4, hn5⟩ := hn
  simp only [Vl.v, Vl.cells] at *
  simp only [Vl.w, Vl.wcells] at *
  have HOKv : Hid (Vl.ok ⟨g, b, p, t, A, c, xs, A2, c2, ms, A3, c3, gs, A4, c4, im⟩ = vltB g b p t xs ms gs im) := Lib.hid rfl
  rw [HOKv.out]
  have HNo := Lib.hid (vltB_no (g := g) (b := b) (p := p) (t := t) (xs := xs) (ms := ms) (gs := gs) (im := im))
  have HYes := Lib.hid (fun h => VltY.b (g := g) (b := b) (p := p) (t := t) (xs := xs) (ms := ms) (gs := gs) (im := im) h)
  have HSup := Lib.hid (fun (w' : World) (hx : Nx w w') => superRight_c g b p t A A2 c c2 B xs ms w' (h.below hx hB) (h2.below hx hB) (Nat.le_trans hB hx.size) hn hn2 hc hm)
  have HCon := Lib.hid (fun (w' : World) (hx : Nx w w') => implContentOK_c A4 c4 B im w' (h4.below hx hB) (Nat.le_trans hB hx.size) hn5)
  have HCha := Lib.hid (fun (w' : World) (hx : Nx w w') => implChainOK_c b A3 c3 B gs w' (h3.below hx hB) (Nat.le_trans hB hx.size) hn3 hn4)
  have HVW := Lib.hid (fun (w' : World) (hx : Nx w w') (h8 : im.length = 8) => hVW w' (h4.below hx hB) (Nat.le_trans hB hx.size) h8)
  have HPL := Lib.hid (fun (w' : World) (hx : Nx w w') (hN : gs.length ≤ 4096) => hPL w' (h3.below hx hB) (h2.below hx hB) (Nat.le_trans hB hx.size) hN hn2)
  have HFF := Lib.hid (fun (w' : World) (hx : Nx w w') (hl : Lead b gs) (h8 : im.length = 8) (hp : plcB b p t gs ms = true) => hFF w' (h3.below hx hB) (Nat.le_trans hB hx.size) hl hc3 h8 hp)
  have HFB := Lib.hid (fun (w' : World) (hx : Nx w w') (hl : Lead b gs) (h8 : im.length = 8) (hp : plcB b p t gs ms = true) => hFB w' (h3.below hx hB) (Nat.le_trans hB hx.size) hl h8 hp)
  clear hVW hPL hFF hFB
  obtain ⟨n, Hn⟩ : ∃ n, Hid (gs.length = n) := ⟨_, rfl⟩
  obtain ⟨q, Hq⟩ : ∃ q, Hid (im.length = q) := ⟨_, rfl⟩
  obtain ⟨r, Hr⟩ : ∃ r, Hid (ms.length = r) := ⟨_, rfl⟩
  obtain ⟨z, Hz⟩ : ∃ z, Hid (xs.length = z) := ⟨_, rfl⟩
  rw [Hz.out, Hr.out] at HSup
  rw [Hq.out] at HCon
  rw [Hn.out] at HCha hn3
  rw [Hn.out, Hq.out, Hr.out, Hz.out] at HVW
  rw [Hn.out, Hr.out, Hz.out] at HPL
  rw [Hn.out, Hq.out, Hr.out, Hz.out] at HFF HFB
  rw [Hr.out] at hn2
  rw [Hz.out] at hn
  rw [Hq.out] at hn5
  rw [Hn.out, Hq.out, Hr.out, Hz.out]
  have b0 := Box.new w 36 #[.int .i64 g, .int .i64 b, .int .i64 p, .int .i64 t, .slice A z c, .slice A2 r c2, .slice A3 n c3, .slice A4 q c4]
  have hx0 := (Nx.refl w).alloc (.cells #[.int .i64 g, .int .i64 b, .int .i64 p, .int .i64 t, .slice A z c, .slice A2 r c2, .slice A3 n c3, .slice A4 q c4] 36)
  clear h h2 h3 h4 hn4 hc hm hc3
  go_enter Try.func78, Try.ntmps78
  go_wp2_with fail
  generalize w.alloc (.cells #[.int .i64 g, .int .i64 b, .int .i64 p, .int .i64 t, .slice A z c, .slice A2 r c2, .slice A3 n c3, .slice A4 q c4] 36) = W at *
  refine (HSup.out W hx0).mono ?_
  rintro e w1 ⟨rfl, hk⟩
  have b1 := b0.nx hk
  have hx := hx0.trans hk
  clear hx0 b0 hk
  cases h1 : superB g b p t xs ms with
  | false =>
    have HR := Lib.hid (HNo.out (.inl h1))
    clear h1
    go_wp2
    go_ret
    exact ⟨ret_bool HR.out.symm, hx⟩
  | true =>
  have H1 := Lib.hid h1
  clear h1
  obtain ⟨y0, y1, y2, y3, y4, y5, y6, y7⟩ := b1.e8
  go_wp2_with fail
  refine (HCon.out _ hx).mono ?_
  clear y0 y1 y2 y3 y4 y5 y6 y7
  rintro e w2 ⟨rfl, hk⟩
  have b2 := b1.nx hk
  replace hx := hx.trans hk
  clear b1 hk
  cases h2 : contB im with
  | false =>
    have HR := Lib.hid (HNo.out (.inr (.inl h2)))
    clear h2
    go_wp2
    go_ret
    exact ⟨ret_bool HR.out.symm, hx⟩
  | true =>
  have H2 := Lib.hid h2
  clear h2
  obtain ⟨y0, y1, y2, y3, y4, y5, y6, y7⟩ := b2.e8
  by_cases hle : n = z
  case neg =>
    have hd : ((n : Int) != (z : Int)) = true := by simp; omega
    have HR := Lib.hid (HNo.out (.inr (.inr (.inl (by rw [Hn.out, Hz.out]; exact hle)))))
    clear hle
    go_wp2
    go_ret
    exact ⟨ret_bool HR.out.symm, hx⟩
  have hd : ((n : Int) != (z : Int)) = false := by simp; omega
  have H4 := Lib.hid hle
  clear hle
  go_wp2_with fail
  refine (HCha.out _ hx).mono ?_
  clear y0 y1 y2 y3 y4 y5 y6 y7 hd
  rintro e w3 ⟨rfl, hk⟩
  have b3 := b2.nx hk
  replace hx := hx.trans hk
  clear b2 hk
  cases h3 : chainB b gs with
  | false =>
    have HR := Lib.hid (HNo.out (.inr (.inr (.inr (.inl h3)))))
    clear h3
    go_wp2
    go_ret
    exact ⟨ret_bool HR.out.symm, hx⟩
  | true =>
  have H3 := Lib.hid h3
  clear h3
  have HLd := Lib.hid (chainB_lead H3.out)
  have hn4 : n ≤ 4096 := by have := HLd.out.short; rw [Hn.out] at this; exact this
  have H8 : Hid (q = 8) := Lib.hid (by rw [← Hq.out]; exact (contB_yes H2.out).1)
  obtain rfl : q = 8 := H8.out
  obtain ⟨y0, y1, y2, y3, y4, y5, y6, y7⟩ := b3.e8
  go_wp2_with fail
  refine (HVW.out _ hx (by trivial)).mono ?_
  clear y0 y1 y2 y3 y4 y5 y6 y7
  rintro e w4 ⟨rfl, hk⟩
  have b4 := b3.nx hk
  replace hx := hx.trans hk
  clear b3 hk
  have rz := Box.new w4 101 #[.int .i64 0, .int .i64 0, .int .i64 0, .int .i64 0, .slice none 0 0, .slice none 0 0, .slice none 0 0, .int .i64 0, .int .i64 0, .int .i64 0, .int .i64 0, .int .i64 0, .int .i64 0, .int .i64 0, .int .i64 0]
  have bv := rz.row #[.int .i64 g, .int .i64 b, .int .i64 p, .int .i64 t, .slice A z c, .slice A2 r c2, .slice A3 n c3, inAt im 0, inAt im 1, inAt im 2, inAt im 3, inAt im 4, inAt im 5, inAt im 6, inAt im 7]
  have hx5 := (hx.alloc (.cells #[.int .i64 0, .int .i64 0, .int .i64 0, .int .i64 0, .slice none 0 0, .slice none 0 0, .slice none 0 0, .int .i64 0, .int .i64 0, .int .i64 0, .int .i64 0, .int .i64 0, .int .i64 0, .int .i64 0, .int .i64 0] 101)).setRow (g := w4.heap.size) hx.size #[.int .i64 g, .int .i64 b, .int .i64 p, .int .i64 t, .slice A z c, .slice A2 r c2, .slice A3 n c3, inAt im 0, inAt im 1, inAt im 2, inAt im 3, inAt im 4, inAt im 5, inAt im 6, inAt im 7]
  obtain ⟨y0, y1, y2, y3, y4, y5, y6, y7, y8, y9, y10, y11, y12, y13, y14⟩ := bv.e15
  go_wp2_with (refine wpList_store_row rfl _ _ _ rfl w4.heap.size #[.int .i64 g, .int .i64 b, .int .i64 p, .int .i64 t, .slice A z c, .slice A2 r c2, .slice A3 n c3, inAt im 0, inAt im 1, inAt im 2, inAt im 3, inAt im 4, inAt im 5, inAt im 6, inAt im 7] rfl rfl 101 #[.int .i64 0, .int .i64 0, .int .i64 0, .int .i64 0, .slice none 0 0, .slice none 0 0, .slice none 0 0, .int .i64 0, .int .i64 0, .int .i64 0, .int .i64 0, .int .i64 0, .int .i64 0, .int .i64 0, .int .i64 0] rz (by kernel_rfl) rfl (by simp [Value.oneCell', inAt]) ?_)
  clear y0 y1 y2 y3 y4 y5 y6 y7 y8 y9 y10 y11 y12 y13 y14 rz hx
  generalize (w4.alloc (.cells #[.int .i64 0, .int .i64 0, .int .i64 0, .int .i64 0, .slice none 0 0, .slice none 0 0, .slice none 0 0, .int .i64 0, .int .i64 0, .int .i64 0, .int .i64 0, .int .i64 0, .int .i64 0, .int .i64 0, .int .i64 0] 101)).setRow w4.heap.size #[.int .i64 g, .int .i64 b, .int .i64 p, .int .i64 t, .slice A z c, .slice A2 r c2, .slice A3 n c3, inAt im 0, inAt im 1, inAt im 2, inAt im 3, inAt im 4, inAt im 5, inAt im 6, inAt im 7] = W5 at *
  generalize w4.heap.size = gV at *
  refine (HPL.out _ hx5 hn4).mono ?_
  rintro e w6 ⟨rfl, hk⟩
  have bv6 := bv.nx hk
  have hx6 := hx5.trans hk
  clear bv hx5 hk
  cases h5 : plcB b p t gs ms with
  | false =>
    have HR := Lib.hid (HNo.out (.inr (.inr (.inr (.inr (.inl h5))))))
    clear h5
    go_wp2
    go_ret
    exact ⟨ret_bool HR.out.symm, hx6⟩
  | true =>
  have H5 := Lib.hid h5
  clear h5
  obtain ⟨y0, y1, y2, y3, y4, y5, y6, y7, y8, y9, y10, y11, y12, y13, y14⟩ := bv6.e15
  go_wp2_with fail
  clear y0 y1 y2 y3 y4 y5 y6 y7 y8 y9 y10 y11 y12 y13 y14
  refine (HFF.out _ hx6 HLd.out (by trivial) H5.out).mono ?_
  rintro e w7 ⟨rfl, hk⟩
  have bv7 := bv6.nx hk
  have hx7 := hx6.trans hk
  clear bv6 hx6 hk
  cases h6 : fitF (stp b p t gs im).1 gs (stp b p t gs im).2 with
  | false =>
    have HR := Lib.hid (HNo.out (.inr (.inr (.inr (.inr (.inr (.inl h6)))))))
    clear h6
    go_wp2
    go_ret
    exact ⟨ret_bool HR.out.symm, hx7⟩
  | true =>
  have H6 := Lib.hid h6
  clear h6
  obtain ⟨y0, y1, y2, y3, y4, y5, y6, y7, y8, y9, y10, y11, y12, y13, y14⟩ := bv7.e15
  go_wp2_with fail
  clear y0 y1 y2 y3 y4 y5 y6 y7 y8 y9 y10 y11 y12 y13 y14
  refine (HFB.out _ hx7 HLd.out (by trivial) H5.out).mono ?_
  rintro e w8 ⟨rfl, hk⟩
  have hx8 := hx7.trans hk
  clear hx7 hk
  cases h7 : fitB (stp b p t gs im).1 gs (stp b p t gs im).2 with
  | false =>
    have HR := Lib.hid (HNo.out (.inr (.inr (.inr (.inr (.inr (.inr h7)))))))
    clear h7
    go_wp2
    go_ret
    exact ⟨ret_bool HR.out.symm, hx8⟩
  | true =>
    have HR := Lib.hid (HYes.out ⟨H1.out, H2.out, by rw [Hn.out, Hz.out]; exact H4.out, H3.out, H5.out, H6.out, h7⟩)
    clear h7
    go_wp2
    go_ret
    exact ⟨ret_bool HR.out.symm, hx8⟩
set_option maxHeartbeats 1000000 in
theorem implVaultOK_c (V : Vl) (B : Nat) (w : World) (h : Vlt w B V) (hB : B ≤ w.heap.size) (hn : VlN V 1048576) (hc : V.xs.length ≤ V.c) (hc3 : V.gs.length ≤ V.c3) (hm : AllM V.ms) :
    Calls Try.prog 20 #[V.v] w fun e w' => e = .returned (.bool V.ok) ∧ Nx w w' := by
  have hR := vaultRight_c V B
  obtain ⟨v, Hv⟩ : ∃ v, Hid (V.ok = v) := ⟨_, rfl⟩
  rw [Hv.out] at hR ⊢
  have HR := Lib.hid (fun (w' : World) (hx : Nx w w') => hR w' (h.below hx hB) (Nat.le_trans hB hx.size) hn hc hc3 hm)
  clear hR Hv h hn hc hc3 hm
  obtain ⟨g, b, p, t, A, c, xs, A2, c2, ms, A3, c3, gs, A4, c4, im⟩ := V
  simp only [Vl.v, Vl.cells] at *
  have hx0 := (Nx.refl w).alloc (.cells #[.int .i64 g, .int .i64 b, .int .i64 p, .int .i64 t, .slice A xs.length c, .slice A2 ms.length c2, .slice A3 gs.length c3, .slice A4 im.length c4] 36)
  go_enter Try.func20, Try.ntmps20
  go_wp2_with fail
  generalize w.alloc (.cells #[.int .i64 g, .int .i64 b, .int .i64 p, .int .i64 t, .slice A xs.length c, .slice A2 ms.length c2, .slice A3 gs.length c3, .slice A4 im.length c4] 36) = W at *
  refine (HR.out W hx0).mono ?_
  rintro e w1 ⟨rfl, hk⟩
  have hx := hx0.trans hk
  go_wp2
  go_ret
  exact ⟨rfl, hx⟩
end Go.Proofs.Ytihpadelfpogmaa
