/-
  Vaults in memory; contracts of the laws' functions that count, make and compare vaults; a vault that comes in, opened.
  Conditions: what is read can be read; copied or compared: at most 1048576 elements of a kind.
-/
import Derived.Test.YtihpadelfpogmaaVlt
import Derived.Test.YtihpadelfpogmaaSup
import Derived.Test.YtihpadelfpogmaaLch
namespace Go.Proofs.Ytihpadelfpogmaa
set_option linter.unusedVariables false
set_option maxRecDepth 100000
open Go.Joins Go.ChangeShapes Go.WideShapes Go.RowKit Go.Deep

/-- A vault in memory: its super's numbers, and where its lists lie. -/
structure Vl where
  g : Int
  b : Int
  p : Int
  t : Int
  A : Option Addr
  c : Nat
  xs : List Int
  A2 : Option Addr
  c2 : Nat
  ms : List Mrk
  A3 : Option Addr
  c3 : Nat
  gs : List SgR
  A4 : Option Addr
  c4 : Nat
  im : List Int
def Vl.cells (V : Vl) : Array Value := #[.int .i64 V.g, .int .i64 V.b, .int .i64 V.p, .int .i64 V.t, .slice V.A V.xs.length V.c, .slice V.A2 V.ms.length V.c2, .slice V.A3 V.gs.length V.c3, .slice V.A4 V.im.length V.c4]
def Vl.v (V : Vl) : Value := .agg V.cells
/-- What a vault is. -/
def Vl.ok (V : Vl) : Bool := vltB V.g V.b V.p V.t V.xs V.ms V.gs V.im
/-- A vault that is read. -/
structure Vlt (w : World) (B : Nat) (V : Vl) : Prop where
  tab : Ins w B V.A V.xs
  mks : Mks w B V.A2 V.ms
  sgs : Sgs w B V.A3 V.gs
  img : Ins w B V.A4 V.im
theorem Vlt.below {w w' : World} {B B' : Nat} {V : Vl} (h : Vlt w B V) (hb : Below B' w w') (hB : B ≤ B') : Vlt w' B V := ⟨h.tab.below hb hB, h.mks.below hb hB, h.sgs.below hb hB, h.img.below hb hB⟩
theorem Sgs.more {w : World} {B B' : Nat} {A : Option Addr} {gs : List SgR} (h : Sgs w B A gs) (hB : B ≤ B') : Sgs w B' A gs := ⟨h.row.more hB, fun k hk => (h.chs k hk).more hB⟩
theorem Vlt.more {w : World} {B B' : Nat} {V : Vl} (h : Vlt w B V) (hB : B ≤ B') : Vlt w B' V := ⟨h.tab.more hB, h.mks.more hB, h.sgs.more hB, h.img.more hB⟩
/-- How large it is at most. -/
structure VlN (V : Vl) (n : Nat) : Prop where
  xs : V.xs.length ≤ n
  ms : V.ms.length ≤ n
  gs : V.gs.length ≤ n
  cs : ∀ k, k < V.gs.length → (V.gs.getD k sgZ).cs.length ≤ n
  im : V.im.length ≤ n
/-- A vault of the call's own. -/
structure VlO (w : World) (lo : Nat) (V : Vl) : Prop where
  tab : SlI w lo V.A V.xs
  mks : SlM w lo V.A2 V.ms
  sgs : SgO w lo V.A3 V.gs
  img : SlI w lo V.A4 V.im
  cap : V.xs.length ≤ V.c
  cap3 : V.gs.length ≤ V.c3
theorem VlO.nx {w w' : World} {lo : Nat} {V : Vl} (h : VlO w lo V) (hb : Nx w w') : VlO w' lo V := ⟨h.tab.nx hb, h.mks.nx hb, h.sgs.nx hb, h.img.nx hb, h.cap, h.cap3⟩
theorem VlO.low {w : World} {lo lo' : Nat} {V : Vl} (h : VlO w lo V) (hl : lo' ≤ lo) : VlO w lo' V := ⟨h.tab.low hl, h.mks.low hl, h.sgs.low hl, h.img.low hl, h.cap, h.cap3⟩
theorem VlO.vlt {w : World} {lo : Nat} {V : Vl} (h : VlO w lo V) : Vlt w w.heap.size V := ⟨h.tab.row, h.mks.row, h.sgs.sgs, h.img.row⟩
theorem Sl.far_sg {w : World} {lo : Nat} {A : Option Addr} {gs : List SgR} (h : SgO w lo A gs) {p : Addr} (hp : p.block < lo) (v : Value) : SgO (w.setCell p v) lo A gs := ⟨h.row.far hp v, fun k hk => (h.chs k hk).far hp v⟩
/-- Alike in all that they tell. -/
structure VlS (V V' : Vl) : Prop where
  g : V'.g = V.g
  b : V'.b = V.b
  p : V'.p = V.p
  t : V'.t = V.t
  xs : V'.xs = V.xs
  ms : V'.ms = V.ms
  gs : V'.gs.map SgR.v = V.gs.map SgR.v
  im : V'.im = V.im
theorem VlS.len {V V' : Vl} (h : VlS V V') : V'.gs.length = V.gs.length := v_len h.gs
theorem VlS.n {V V' : Vl} {n : Nat} (h : VlS V V') (hn : VlN V n) : VlN V' n := ⟨by rw [h.xs]; exact hn.xs, by rw [h.ms]; exact hn.ms, by rw [h.len]; exact hn.gs, v_cs h.gs hn.cs, by rw [h.im]; exact hn.im⟩
theorem VlS.symm {V V' : Vl} (h : VlS V V') : VlS V' V := ⟨h.g.symm, h.b.symm, h.p.symm, h.t.symm, h.xs.symm, h.ms.symm, h.gs.symm, h.im.symm⟩
theorem VlS.trans {V V' V2 : Vl} (h : VlS V V') (k : VlS V' V2) : VlS V V2 := ⟨k.g.trans h.g, k.b.trans h.b, k.p.trans h.p, k.t.trans h.t, k.xs.trans h.xs, k.ms.trans h.ms, k.gs.trans h.gs, k.im.trans h.im⟩
def RetVl (w : World) (V : Vl) (e : Ending) (w' : World) : Prop := ∃ V' : Vl, e = .returned V'.v ∧ VlS V V' ∧ VlO w' w.heap.size V' ∧ Nx w w'
def costV (V : Vl) : Int := costU V.xs V.ms + ((V.gs.length : Int) + (ssum V.gs V.gs.length : Int)) + V.im.length
theorem Box.e8 {w : World} {g : Nat} {t : TypeId} {v0 v1 v2 v3 v4 v5 v6 v7 : Value} (h : Box w g t #[v0, v1, v2, v3, v4, v5, v6, v7]) : w.cell? ⟨g, 0, none⟩ = some v0 ∧ w.cell? ⟨g, 1, none⟩ = some v1 ∧ w.cell? ⟨g, 2, none⟩ = some v2 ∧ w.cell? ⟨g, 3, none⟩ = some v3 ∧ w.cell? ⟨g, 4, none⟩ = some v4 ∧ w.cell? ⟨g, 5, none⟩ = some v5 ∧ w.cell? ⟨g, 6, none⟩ = some v6 ∧ w.cell? ⟨g, 7, none⟩ = some v7 :=
  ⟨h.cell 0, h.cell 1, h.cell 2, h.cell 3, h.cell 4, h.cell 5, h.cell 6, h.cell 7⟩

set_option maxHeartbeats 2000000 in
theorem szVault_c (V : Vl) (B : Nat) (left : Int) (w : World) (h : Vlt w B V) (hB : B ≤ w.heap.size) (hm : AllM V.ms) (hn : VlN V (2 ^ 63 - 1)) (h0 : 0 ≤ left) (h1 : left ≤ 1048576) :
    Calls Try.prog 14 #[V.v, .int .i64 left] w fun e w' => e = .returned (.int .i64 (szR left (costV V))) ∧ Nx w w' := by
  obtain ⟨g, b, p, t, A, c, xs, A2, c2, ms, A3, c3, gs, A4, c4, im⟩ := V
  obtain ⟨h, h2, h3, h4⟩ := h
  obtain ⟨hn, hn2, hn3, hn4, hn5⟩ := hn
  simp only [Vl.v, Vl.cells] at *
  have HC : Hid (costV ⟨g, b, p, t, A, c, xs, A2, c2, ms, A3, c3, gs, A4, c4, im⟩ = costU xs ms + ((gs.length : Int) + (ssum gs gs.length : Int)) + im.length) := Lib.hid rfl
  obtain ⟨C, HCo⟩ : ∃ C, Hid (costV ⟨g, b, p, t, A, c, xs, A2, c2, ms, A3, c3, gs, A4, c4, im⟩ = C) := ⟨_, rfl⟩
  have HU : Hid (0 ≤ costU xs ms) := Lib.hid (by unfold costU; omega)
  rw [HCo.out] at HC ⊢
  have b0 := Box.new w 28 #[.int .i64 g, .int .i64 b, .int .i64 p, .int .i64 t, .slice A xs.length c, .slice A2 ms.length c2, .slice A3 gs.length c3, .slice A4 im.length c4]
  have hx0 := (Nx.refl w).alloc (.cells #[.int .i64 g, .int .i64 b, .int .i64 p, .int .i64 t, .slice A xs.length c, .slice A2 ms.length c2, .slice A3 gs.length c3, .slice A4 im.length c4] 28)
  go_enter Try.func14, Try.ntmps14
  go_wp2_with fail
  generalize w.alloc (.cells #[.int .i64 g, .int .i64 b, .int .i64 p, .int .i64 t, .slice A xs.length c, .slice A2 ms.length c2, .slice A3 gs.length c3, .slice A4 im.length c4] 28) = W at *
  refine (szSuper_c g b p t A A2 c c2 B xs ms _ _ (h2.below hx0 hB) (Nat.le_trans hB hx0.size) hm hn hn2 h0 h1).mono ?_
  rintro e w1 ⟨rfl, hnx1⟩
  have hx1 := hx0.trans hnx1
  have b1 := b0.nx hnx1
  obtain ⟨_, _, _, _, _, _, y6, y7⟩ := b1.e8
  clear b0 hx0 hnx1
  obtain ⟨cu, Hcu⟩ : ∃ q, Hid (costU xs ms = q) := ⟨_, rfl⟩
  rw [Hcu.out] at HU HC ⊢
  by_cases hle : cu ≤ left
  case neg =>
    rw [← szR_no (by omega)]
    go_wp2
    go_ret
    exact ⟨ret_int (szR_no (by have := HC.out; omega)), hx1⟩
  rw [← szR_yes hle]
  have hd : decide (left - cu < 0) = false := by simp; omega
  go_wp2_with fail
  refine (szSegS_c A3 c3 B gs _ _ (h3.below hx1 hB).row (Nat.le_trans hB hx1.size) hn3 hn4 (by omega) (by have := HU.out; omega)).mono ?_
  rintro e w2 ⟨rfl, hnx2⟩
  have hx2 := hx1.trans hnx2
  have b2 := b1.nx hnx2
  obtain ⟨_, _, _, _, _, _, _, z7⟩ := b2.e8
  clear b1 hx1 hnx2 y6 y7
  obtain ⟨cg, Hcg⟩ : ∃ q, Hid ((gs.length : Int) + (ssum gs gs.length : Int) = q) := ⟨_, rfl⟩
  have hcg : 0 ≤ cg := by have := Hcg.out; omega
  rw [Hcg.out] at HC ⊢
  by_cases hle2 : cg ≤ left - cu
  case neg =>
    rw [← szR_no (by omega)]
    go_wp2
    go_ret
    exact ⟨ret_int (szR_no (by have := HC.out; omega)), hx2⟩
  rw [← szR_yes hle2]
  have hd2 : decide (left - cu - cg < 0) = false := by simp; omega
  go_wp2_with fail
  refine (szIntS_c A4 im.length c4 _ _ hn5 (by omega) (by have := HU.out; omega)).mono ?_
  rintro e w3 ⟨rfl, rfl⟩
  by_cases hle3 : (im.length : Int) ≤ left - cu - cg
  case neg =>
    rw [← szR_no (by omega)]
    go_wp2
    go_ret
    exact ⟨ret_int (szR_no (by have := HC.out; omega)), hx2⟩
  rw [← szR_yes hle3]
  have hd3 : decide (left - cu - cg - (im.length : Int) < 0) = false := by simp; omega
  go_wp2
  go_ret
  refine ⟨ret_int ?_, hx2⟩
  rw [← szR_yes (by have := HC.out; omega)]
  have := HC.out
  omega

set_option maxHeartbeats 4000000 in
theorem eqVault_c (V V' : Vl) (B : Nat) (w : World) (h : Vlt w B V) (h' : Vlt w B V') (hs : VlS V V') (hB : B ≤ w.heap.size) (hn : VlN V 1048576) :
    Calls Try.prog 18 #[V.v, V'.v] w fun e w' => e = .returned (.bool true) ∧ Nx w w' := by
  obtain ⟨g, b, p, t, A, c, xs, A2, c2, ms, A3, c3, gs, A4, c4, im⟩ := V
  obtain ⟨g', b', p', t', A', c', xs', A2', c2', ms', A3', c3', gs', A4', c4', im'⟩ := V'
  obtain ⟨h, h2, h3, h4⟩ := h
  obtain ⟨k, k2, k3, k4⟩ := h'
  obtain ⟨hn, hn2, hn3, hn4, hn5⟩ := hn
  obtain ⟨e1, e2, e3, e4, e5, e6, e7, e8⟩ := hs
  simp only [Vl.v, Vl.cells] at *
  replace e1 := e1.symm
  replace e2 := e2.symm
  replace e3 := e3.symm
  replace e4 := e4.symm
  replace e5 := e5.symm
  replace e6 := e6.symm
  replace e8 := e8.symm
  subst e1 e2 e3 e4 e5 e6 e8
  have b0 := (Box.new w 36 #[.int .i64 g, .int .i64 b, .int .i64 p, .int .i64 t, .slice A xs.length c, .slice A2 ms.length c2, .slice A3 gs.length c3, .slice A4 im.length c4]).alloc (.cells #[.int .i64 g, .int .i64 b, .int .i64 p, .int .i64 t, .slice A' xs.length c', .slice A2' ms.length c2', .slice A3' gs'.length c3', .slice A4' im.length c4'] 36)
  have b1 := Box.new (w.alloc (.cells #[.int .i64 g, .int .i64 b, .int .i64 p, .int .i64 t, .slice A xs.length c, .slice A2 ms.length c2, .slice A3 gs.length c3, .slice A4 im.length c4] 36)) 36 #[.int .i64 g, .int .i64 b, .int .i64 p, .int .i64 t, .slice A' xs.length c', .slice A2' ms.length c2', .slice A3' gs'.length c3', .slice A4' im.length c4']
  have hx0 := ((Nx.refl w).alloc (.cells #[.int .i64 g, .int .i64 b, .int .i64 p, .int .i64 t, .slice A xs.length c, .slice A2 ms.length c2, .slice A3 gs.length c3, .slice A4 im.length c4] 36)).alloc (.cells #[.int .i64 g, .int .i64 b, .int .i64 p, .int .i64 t, .slice A' xs.length c', .slice A2' ms.length c2', .slice A3' gs'.length c3', .slice A4' im.length c4'] 36)
  simp only [World.size_alloc] at b1
  go_enter Try.func18, Try.ntmps18
  go_wp2_with fail
  generalize (w.alloc (.cells #[.int .i64 g, .int .i64 b, .int .i64 p, .int .i64 t, .slice A xs.length c, .slice A2 ms.length c2, .slice A3 gs.length c3, .slice A4 im.length c4] 36)).alloc (.cells #[.int .i64 g, .int .i64 b, .int .i64 p, .int .i64 t, .slice A' xs.length c', .slice A2' ms.length c2', .slice A3' gs'.length c3', .slice A4' im.length c4'] 36) = W at *
  refine (eqSuper_c _ _ _ _ A A2 A' A2' c c2 c' c2' B _ _ _ (h.below hx0 hB) (h2.below hx0 hB) (k.below hx0 hB) (k2.below hx0 hB) (Nat.le_trans hB hx0.size) hn hn2).mono ?_
  rintro e w1 ⟨rfl, hnx1⟩
  have hx1 := hx0.trans hnx1
  have d0 := b0.nx hnx1
  have d1 := b1.nx hnx1
  obtain ⟨_, _, _, _, _, _, y6, y7⟩ := d0.e8
  obtain ⟨_, _, _, _, _, _, z6, z7⟩ := d1.e8
  clear b0 b1 hx0 hnx1
  go_wp2_with fail
  refine (eqSegS_c A3 A3' c3 c3' B gs gs' _ (h3.below hx1 hB) (k3.below hx1 hB) e7.symm (Nat.le_trans hB hx1.size) hn3 hn4).mono ?_
  rintro e w2 ⟨rfl, hnx2⟩
  have hx2 := hx1.trans hnx2
  have f0 := d0.nx hnx2
  have f1 := d1.nx hnx2
  clear y6 y7 z6 z7 d0 d1 hx1 hnx2
  obtain ⟨_, _, _, _, _, _, _, y7⟩ := f0.e8
  obtain ⟨_, _, _, _, _, _, _, z7⟩ := f1.e8
  go_wp2_with fail
  refine (eqIntS_c A4 A4' c4 c4' B _ _ (h4.below hx2 hB) (k4.below hx2 hB) (Nat.le_trans hB hx2.size) hn5).mono ?_
  rintro e w3 ⟨rfl, hnx3⟩
  go_wp2
  go_ret
  exact ⟨rfl, hx2.trans hnx3⟩
end Go.Proofs.Ytihpadelfpogmaa
