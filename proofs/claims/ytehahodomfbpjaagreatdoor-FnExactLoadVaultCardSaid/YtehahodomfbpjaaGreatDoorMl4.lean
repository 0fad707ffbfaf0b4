/-
  Texts of the proof, put together in their order: Vlm, Ers, Dig, Sum, Six, Pdd, Bld, Frt, Nmt, Nat, Num, Cut, Nmo, Nms, Opn.
  Conditions: those of each.
-/
import Derived.Test.YtehahodomfbpjaaGreatDoorMl3
import Derived.LaidEql
import Derived.Stop.Asserts
import Derived.RowKitTokens
import Derived.Deep.RegionWith
import Derived.Laws.IdiomStrings
import Derived.Laws.Concat
import Derived.IntWalk
import Derived.Lib.Strings
import Derived.Lib.Builder
import Derived.Lib.AppendStr
import Derived.Lib.UnsafeStr
import Derived.Laws.Externs
import Derived.RegionTactic
import Derived.Shelf.Strings.Builder1
import Derived.Deep.AppendLies
import Derived.Deep.QuietTactic
import Derived.BigQuiet
import Derived.Lib.SplitLaws
/- Vaults in memory; contracts of the laws' functions that count, make and compare vaults; a vault that comes in, opened. Conditions: what is read can be read; copied or compared: at most 1048576 elements of a kind. -/
namespace Go.Proofs.YtehahodomfbpjaaGreatDoor
set_option linter.unusedVariables false
set_option maxRecDepth 100000
open Go.Joins Go.ChangeShapes Go.WideShapes Go.RowKit Go.Deep

/-- A vault in memory: its super's numbers, and where its lists lie. -/
structure Vl where
  g : Int
  b : Int
  p : Int
  t : Int
  A : Option Addr
  c : Nat
  xs : List Int
  A2 : Option Addr
  c2 : Nat
  ms : List Mrk
  A3 : Option Addr
  c3 : Nat
  gs : List SgR
  A4 : Option Addr
  c4 : Nat
  im : List Int
def Vl.cells (V : Vl) : Array Value := #[.int .i64 V.g, .int .i64 V.b, .int .i64 V.p, .int .i64 V.t, .slice V.A V.xs.length V.c, .slice V.A2 V.ms.length V.c2, .slice V.A3 V.gs.length V.c3, .slice V.A4 V.im.length V.c4]
def Vl.v (V : Vl) : Value := .agg V.cells
/-- What a vault is. -/
def Vl.ok (V : Vl) : Bool := vltB V.g V.b V.p V.t V.xs V.ms V.gs V.im
/-- A vault that is read. -/
structure Vlt (w : World) (B : Nat) (V : Vl) : Prop where
  tab : Ins w B V.A V.xs
  mks : Mks w B V.A2 V.ms
  sgs : Sgs w B V.A3 V.gs
  img : Ins w B V.A4 V.im
theorem Vlt.below {w w' : World} {B B' : Nat} {V : Vl} (h : Vlt w B V) (hb : Below B' w w') (hB : B ≤ B') : Vlt w' B V := ⟨h.tab.below hb hB, h.mks.below hb hB, h.sgs.below hb hB, h.img.below hb hB⟩
theorem Sgs.more {w : World} {B B' : Nat} {A : Option Addr} {gs : List SgR} (h : Sgs w B A gs) (hB : B ≤ B') : Sgs w B' A gs := ⟨h.row.more hB, fun k hk => (h.chs k hk).more hB⟩
theorem Vlt.more {w : World} {B B' : Nat} {V : Vl} (h : Vlt w B V) (hB : B ≤ B') : Vlt w B' V := ⟨h.tab.more hB, h.mks.more hB, h.sgs.more hB, h.img.more hB⟩
/-- How large it is at most. -/
structure VlN (V : Vl) (n : Nat) : Prop where
  xs : V.xs.length ≤ n
  ms : V.ms.length ≤ n
  gs : V.gs.length ≤ n
  cs : ∀ k, k < V.gs.length → (V.gs.getD k sgZ).cs.length ≤ n
  im : V.im.length ≤ n
/-- A vault of the call's own. -/
structure VlO (w : World) (lo : Nat) (V : Vl) : Prop where
  tab : SlI w lo V.A V.xs
  mks : SlM w lo V.A2 V.ms
  sgs : SgO w lo V.A3 V.gs
  img : SlI w lo V.A4 V.im
  cap : V.xs.length ≤ V.c
  cap3 : V.gs.length ≤ V.c3
theorem VlO.nx {w w' : World} {lo : Nat} {V : Vl} (h : VlO w lo V) (hb : Nx w w') : VlO w' lo V := ⟨h.tab.nx hb, h.mks.nx hb, h.sgs.nx hb, h.img.nx hb, h.cap, h.cap3⟩
theorem VlO.low {w : World} {lo lo' : Nat} {V : Vl} (h : VlO w lo V) (hl : lo' ≤ lo) : VlO w lo' V := ⟨h.tab.low hl, h.mks.low hl, h.sgs.low hl, h.img.low hl, h.cap, h.cap3⟩
theorem VlO.vlt {w : World} {lo : Nat} {V : Vl} (h : VlO w lo V) : Vlt w w.heap.size V := ⟨h.tab.row, h.mks.row, h.sgs.sgs, h.img.row⟩
/-- Alike in all that they tell. -/
structure VlS (V V' : Vl) : Prop where
  g : V'.g = V.g
  b : V'.b = V.b
  p : V'.p = V.p
  t : V'.t = V.t
  xs : V'.xs = V.xs
  ms : V'.ms = V.ms
  gs : V'.gs.map SgR.v = V.gs.map SgR.v
  im : V'.im = V.im
theorem VlS.len {V V' : Vl} (h : VlS V V') : V'.gs.length = V.gs.length := v_len h.gs
theorem VlS.n {V V' : Vl} {n : Nat} (h : VlS V V') (hn : VlN V n) : VlN V' n := ⟨by rw [h.xs]; exact hn.xs, by rw [h.ms]; exact hn.ms, by rw [h.len]; exact hn.gs, v_cs h.gs hn.cs, by rw [h.im]; exact hn.im⟩
theorem VlS.symm {V V' : Vl} (h : VlS V V') : VlS V' V := ⟨h.g.symm, h.b.symm, h.p.symm, h.t.symm, h.xs.symm, h.ms.symm, h.gs.symm, h.im.symm⟩
theorem VlS.trans {V V' V2 : Vl} (h : VlS V V') (k : VlS V' V2) : VlS V V2 := ⟨k.g.trans h.g, k.b.trans h.b, k.p.trans h.p, k.t.trans h.t, k.xs.trans h.xs, k.ms.trans h.ms, k.gs.trans h.gs, k.im.trans h.im⟩
theorem Box.e8 {w : World} {g : Nat} {t : TypeId} {v0 v1 v2 v3 v4 v5 v6 v7 : Value} (h : Box w g t #[v0, v1, v2, v3, v4, v5, v6, v7]) : w.cell? ⟨g, 0, none⟩ = some v0 ∧ w.cell? ⟨g, 1, none⟩ = some v1 ∧ w.cell? ⟨g, 2, none⟩ = some v2 ∧ w.cell? ⟨g, 3, none⟩ = some v3 ∧ w.cell? ⟨g, 4, none⟩ = some v4 ∧ w.cell? ⟨g, 5, none⟩ = some v5 ∧ w.cell? ⟨g, 6, none⟩ = some v6 ∧ w.cell? ⟨g, 7, none⟩ = some v7 :=
  ⟨h.cell 0, h.cell 1, h.cell 2, h.cell 3, h.cell 4, h.cell 5, h.cell 6, h.cell 7⟩

set_option maxHeartbeats 4000000 in
theorem eqVault_c (V V' : Vl) (B : Nat) (w : World) (h : Vlt w B V) (h' : Vlt w B V') (hs : VlS V V') (hB : B ≤ w.heap.size) (hn : VlN V 1048576) :
    Calls Tryz.prog 14 #[V.v, V'.v] w fun e w' => e = .returned (.bool true) ∧ Nx w w' := by
  obtain ⟨g, b, p, t, A, c, xs, A2, c2, ms, A3, c3, gs, A4, c4, im⟩ := V
  obtain ⟨g', b', p', t', A', c', xs', A2', c2', ms', A3', c3', gs', A4', c4', im'⟩ := V'
  obtain ⟨h, h2, h3, h4⟩ := h
  obtain ⟨k, k2, k3, k4⟩ := h'
  obtain ⟨hn, hn2, hn3, hn4, hn5⟩ := hn
  obtain ⟨e1, e2, e3, e4, e5, e6, e7, e8⟩ := hs
  simp only [Vl.v, Vl.cells] at *
  replace e1 := e1.symm
  replace e2 := e2.symm
  replace e3 := e3.symm
  replace e4 := e4.symm
  replace e5 := e5.symm
  replace e6 := e6.symm
  replace e8 := e8.symm
  subst e1 e2 e3 e4 e5 e6 e8
  have b0 := (Box.new w 33 #[.int .i64 g, .int .i64 b, .int .i64 p, .int .i64 t, .slice A xs.length c, .slice A2 ms.length c2, .slice A3 gs.length c3, .slice A4 im.length c4]).alloc (.cells #[.int .i64 g, .int .i64 b, .int .i64 p, .int .i64 t, .slice A' xs.length c', .slice A2' ms.length c2', .slice A3' gs'.length c3', .slice A4' im.length c4'] 33)
  have b1 := Box.new (w.alloc (.cells #[.int .i64 g, .int .i64 b, .int .i64 p, .int .i64 t, .slice A xs.length c, .slice A2 ms.length c2, .slice A3 gs.length c3, .slice A4 im.length c4] 33)) 33 #[.int .i64 g, .int .i64 b, .int .i64 p, .int .i64 t, .slice A' xs.length c', .slice A2' ms.length c2', .slice A3' gs'.length c3', .slice A4' im.length c4']
  have hx0 := ((Nx.refl w).alloc (.cells #[.int .i64 g, .int .i64 b, .int .i64 p, .int .i64 t, .slice A xs.length c, .slice A2 ms.length c2, .slice A3 gs.length c3, .slice A4 im.length c4] 33)).alloc (.cells #[.int .i64 g, .int .i64 b, .int .i64 p, .int .i64 t, .slice A' xs.length c', .slice A2' ms.length c2', .slice A3' gs'.length c3', .slice A4' im.length c4'] 33)
  simp only [World.size_alloc] at b1
  go_enter Tryz.func14, Tryz.ntmps14
  go_wp2_with fail
  generalize (w.alloc (.cells #[.int .i64 g, .int .i64 b, .int .i64 p, .int .i64 t, .slice A xs.length c, .slice A2 ms.length c2, .slice A3 gs.length c3, .slice A4 im.length c4] 33)).alloc (.cells #[.int .i64 g, .int .i64 b, .int .i64 p, .int .i64 t, .slice A' xs.length c', .slice A2' ms.length c2', .slice A3' gs'.length c3', .slice A4' im.length c4'] 33) = W at *
  refine (eqSuper_c _ _ _ _ A A2 A' A2' c c2 c' c2' B _ _ _ (h.below hx0 hB) (h2.below hx0 hB) (k.below hx0 hB) (k2.below hx0 hB) (Nat.le_trans hB hx0.size) hn hn2).mono ?_
  rintro e w1 ⟨rfl, hnx1⟩
  have hx1 := hx0.trans hnx1
  have d0 := b0.nx hnx1
  have d1 := b1.nx hnx1
  obtain ⟨_, _, _, _, _, _, y6, y7⟩ := d0.e8
  obtain ⟨_, _, _, _, _, _, z6, z7⟩ := d1.e8
  clear b0 b1 hx0 hnx1
  go_wp2_with fail
  refine (eqSegS_c A3 A3' c3 c3' B gs gs' _ (h3.below hx1 hB) (k3.below hx1 hB) e7.symm (Nat.le_trans hB hx1.size) hn3 hn4).mono ?_
  rintro e w2 ⟨rfl, hnx2⟩
  have hx2 := hx1.trans hnx2
  have f0 := d0.nx hnx2
  have f1 := d1.nx hnx2
  clear y6 y7 z6 z7 d0 d1 hx1 hnx2
  obtain ⟨_, _, _, _, _, _, _, y7⟩ := f0.e8
  obtain ⟨_, _, _, _, _, _, _, z7⟩ := f1.e8
  go_wp2_with fail
  refine (eqIntS_c A4 A4' c4 c4' B _ _ (h4.below hx2 hB) (k4.below hx2 hB) (Nat.le_trans hB hx2.size) hn5).mono ?_
  rintro e w3 ⟨rfl, hnx3⟩
  go_wp2
  go_ret
  exact ⟨rfl, hx2.trans hnx3⟩
end Go.Proofs.YtehahodomfbpjaaGreatDoor
/- Contracts of errors.Is where both are errors of errors.New's make. Conditions: the errors' blocks are known. -/
namespace Go.Proofs.YtehahodomfbpjaaGreatDoor
set_option linter.unusedVariables false
set_option maxRecDepth 100000
open Go.RowKit Go.Extern.Stop Go.Stop Go.Extern

end Go.Proofs.YtehahodomfbpjaaGreatDoor
/- Numbers' digits: what they are, and the contract of the model's l00Digits. Conditions: the number is from 0 to 999999. -/
namespace Go.Proofs.YtehahodomfbpjaaGreatDoor
set_option linter.unusedVariables false
set_option maxRecDepth 100000
open Go.RowKit

/-- The digits of a number. -/
def digs (n : Nat) : List UInt8 := if n < 10 then [UInt8.ofNat (48 + n)] else digs (n / 10) ++ [UInt8.ofNat (48 + n % 10)]
/-- .. just so many. -/
def pad : Nat → Nat → List UInt8
  | 0, _ => []
  | k + 1, n => pad k (n / 10) ++ [UInt8.ofNat (48 + n % 10)]
theorem pad_len (k n : Nat) : (pad k n).length = k := by
  induction k generalizing n with
  | zero => rfl
  | succ k ih => simp [pad, ih]
theorem pad_zero (k : Nat) : pad k 0 = List.replicate k 48 := by
  induction k with
  | zero => rfl
  | succ k ih =>
    show pad k 0 ++ [48] = _
    rw [ih, List.replicate_succ']
theorem digs_lt {n : Nat} (h : n < 10) : digs n = [UInt8.ofNat (48 + n)] := by rw [digs, if_pos h]
theorem digs_ge {n : Nat} (h : ¬ n < 10) : digs n = digs (n / 10) ++ [UInt8.ofNat (48 + n % 10)] := by rw [digs, if_neg h]
theorem digs_pad (k : Nat) : ∀ n, n < 10 ^ (k + 1) → (digs n).length ≤ k + 1 ∧ List.replicate (k + 1 - (digs n).length) 48 ++ digs n = pad (k + 1) n := by
  induction k with
  | zero =>
    intro n h
    have h' : n < 10 := by simpa using h
    rw [digs_lt h']
    refine ⟨by simp, ?_⟩
    show _ = [] ++ [UInt8.ofNat (48 + n % 10)]
    rw [Nat.mod_eq_of_lt h']; simp
  | succ k ih =>
    intro n h
    by_cases h' : n < 10
    · rw [digs_lt h']
      refine ⟨by simp, ?_⟩
      show _ = pad (k + 1) (n / 10) ++ [UInt8.ofNat (48 + n % 10)]
      rw [Nat.mod_eq_of_lt h', Nat.div_eq_of_lt h', pad_zero]; simp
    · have h2 : n / 10 < 10 ^ (k + 1) := by
        rw [Nat.pow_succ] at h
        omega
      obtain ⟨hl, he⟩ := ih (n / 10) h2
      rw [digs_ge h']
      refine ⟨by simp; omega, ?_⟩
      show _ = pad (k + 1) (n / 10) ++ [UInt8.ofNat (48 + n % 10)]
      rw [← he, ← List.append_assoc]
      congr 2
      simp
theorem digs_len {n : Nat} (h : n ≤ 999999) : 1 ≤ (digs n).length ∧ (digs n).length ≤ 6 := by
  refine ⟨?_, (digs_pad 5 n (by omega)).1⟩
  by_cases h' : n < 10
  · rw [digs_lt h']; simp
  · rw [digs_ge h']; simp

theorem cv_one (y : Int) (hy : 0 ≤ y) (hy2 : y < 256) (W : World) (b : Nat) (h : W.cell? ⟨b, 0, none⟩ = some (.int .u8 y)) :
    (convert 58 9 (.slice (some ⟨b, 0, none⟩) 1 1)).run Tryz.prog W = .ok (.string ⟨#[UInt8.ofNat y.toNat]⟩) W := by
  have := run_convert_bytes_back (P := Tryz.prog) W 58 9 5 ⟨b, 0, none⟩ 1 [UInt8.ofNat y.toNat] Tryz.underlying58 Tryz.underlying5 Tryz.underlying9 (fun j hj => by
    obtain rfl : j = 0 := by simpa using hj
    have e : ((UInt8.ofNat y.toNat).toNat : Int) = y := by
      rw [UInt8.toNat_ofNat']
      omega
    simp only [List.getElem_cons_zero, e]
    simpa [Addr.add] using h)
  simpa using this
theorem Nx.cells {a w : World} (h : Nx a w) : ∀ b o, b < a.heap.size → w.cell? ⟨b, o, none⟩ = a.cell? ⟨b, o, none⟩ := fun b o hb => h.cell (p := ⟨b, o, none⟩) hb
theorem ret_str {a b : ByteArray} (h : a = b) : Ending.returned (.string a) = .returned (.string b) := by rw [h]

set_option maxRecDepth 100000 in
set_option maxHeartbeats 1000000 in
theorem l00Digits_c : ∀ (n : Nat) (w : World), n ≤ 999999 → Calls Tryz.prog 192 #[.int .i64 n] w fun e w' => e = .returned (.string ⟨(digs n).toArray⟩) ∧ Nx w w' := by
  intro n
  induction n using Nat.strongRecOn with
  | ind n ih =>
    intro w hn
    by_cases h' : n < 10
    · have hd : decide ((n : Int) < 10) = true := by simp; omega
      have hz : ((n : Int) == -9223372036854775808) = false := beq_eq_false_iff_ne.2 (by omega)
      have HD := Lib.hid (digs_lt h')
      have hcv := cv_one (48 + n) (by omega) (by omega)
      go_enter Tryz.func192, Tryz.ntmps192
      go_wp2
      go_ret
      refine ⟨ret_str ?_, (Nx.refl _).alloc _⟩
      rw [HD.out]
    · have hd : decide ((n : Int) < 10) = false := by simp; omega
      have hz : ((n : Int) == -9223372036854775808) = false := beq_eq_false_iff_ne.2 (by omega)
      have HD := Lib.hid (digs_ge h')
      obtain ⟨q, hq⟩ : ∃ q, n / 10 = q := ⟨_, rfl⟩
      obtain ⟨d, hd'⟩ : ∃ d, n % 10 = d := ⟨_, rfl⟩
      rw [hq, hd'] at HD
      have hd10 : d < 10 := by omega
      have ihq := ih q (by omega)
      have hq6 : q ≤ 999999 := by omega
      obtain ⟨hl1, hl2⟩ := digs_len hq6
      have hcv := cv_one (48 + d) (by omega) (by omega)
      have e1 : IntKind.i64.wrap ((n : Int) / 10) = (q : Int) := by
        rw [show (n : Int) / 10 = (q : Int) by omega]; exact IntWalk.i64_in _ (by omega)
      have e3 : (n : Int).tmod 10 = (d : Int) := by rw [Int.tmod_eq_emod_of_nonneg (by omega)]; omega
      have e4 : IntKind.i64.wrap (48 + (d : Int)) = 48 + d := IntWalk.i64_in _ (by omega)
      have e5 : IntKind.u8.wrap (48 + (d : Int)) = 48 + d := IntWalk.u8_in _ (by omega)
      clear hq hd' ih
      go_enter Tryz.func192, Tryz.ntmps192
      go_wp2_with fail
      go_region_with (go_at_call 192; refine (ihq _ hq6).mono ?_; rintro e w1 ⟨rfl, hnx1⟩; have hcl := hnx1.cells)
      all_goals
        clear e1 e3 e4 e5 hcv ihq hcl
        go_wp2
        go_ret
        refine ⟨ret_str ?_, ?_⟩
        · rw [HD.out, ByteArray.mk_append_mk]; simp
        · first
            | exact (Nx.drew_r hnx1).alloc _
            | exact ((Nx.refl w).alloc _).drew.trans hnx1
            | exact (((Nx.refl w).alloc _).drew.trans hnx1).drew
end Go.Proofs.YtehahodomfbpjaaGreatDoor
/- Contracts of SumOf, as the model and as the program have it: both answer the same number of every text. Conditions: the text is of at most maxLen bytes (what the model lets a text have). -/
namespace Go.Proofs.YtehahodomfbpjaaGreatDoor
set_option linter.unusedVariables false
set_option maxRecDepth 100000
open Go.RowKit

def sumL (l : List UInt8) : Int := l.foldl (fun n c => (n * 31 + (c.toNat : Int)) % 997) 7
theorem sumL_snoc (l : List UInt8) (c : UInt8) : sumL (l ++ [c]) = (sumL l * 31 + (c.toNat : Int)) % 997 := by
  unfold sumL; rw [List.foldl_append]; rfl
theorem sumL_bd (l : List UInt8) : 0 ≤ sumL l ∧ sumL l ≤ 996 := by
  rcases List.eq_nil_or_concat l with rfl | ⟨l', c, rfl⟩
  · exact ⟨by decide, by decide⟩
  · rw [List.concat_eq_append, sumL_snoc]; omega
/-- A text's sum. -/
def sumS (s : ByteArray) : Int := sumL s.data.toList
def sumOfS (s : ByteArray) : Int := if s.size ≤ 65536 then sumS s else 0
theorem sumOfS_yes {s : ByteArray} (h : s.size ≤ 65536) : sumS s = sumOfS s := by unfold sumOfS; rw [if_pos h]
theorem sumOfS_no {s : ByteArray} (h : ¬ s.size ≤ 65536) : 0 = sumOfS s := by unfold sumOfS; rw [if_neg h]
theorem take_snoc (s : ByteArray) (k : Nat) (h : k < s.size) : s.data.toList.take (k + 1) = s.data.toList.take k ++ [s[k]] := by
  rw [List.take_succ_eq_append_getElem (by simpa using h)]; rfl
def sumTo (s : ByteArray) (k : Nat) : Int := sumL (s.data.toList.take k)
theorem sumTo_bd (s : ByteArray) (k : Nat) : 0 ≤ sumTo s k ∧ sumTo s k ≤ 996 := sumL_bd _
theorem sumTo_succ (s : ByteArray) (k : Nat) (h : k < s.size) : sumTo s (k + 1) = (sumTo s k * 31 + (s[k].toNat : Int)) % 997 := by
  unfold sumTo; rw [take_snoc s k h, sumL_snoc]
theorem sumTo_all (s : ByteArray) : sumTo s s.size = sumS s := by
  unfold sumTo sumS; rw [List.take_of_length_le (by simp)]

set_option maxHeartbeats 400000 in
theorem l02Sum_c (s : ByteArray) (w : World) (hs : s.size ≤ maxLen) : Calls Tryz.prog 227 #[.string s] w fun e w' => e = .returned (.int .i64 (sumS s)) ∧ w = w' := by
  unfold maxLen at hs
  go_enter Tryz.func227, Tryz.ntmps227
  go_wp2
  go_loop [3, 4] (fun n i => ∃ k : Nat, k ≤ s.size ∧ i = .int .i64 k ∧ n = .int .i64 (sumTo s k)) (fun _ i => s.size - (intOf i).toNat)
  case atStart => exact ⟨0, Nat.zero_le _, rfl, rfl⟩
  case round =>
    obtain ⟨k, hk, rfl, rfl⟩ := hrel
    obtain ⟨h1, h2⟩ := sumTo_bd s k
    by_cases hlt : k < s.size
    · have HS := Lib.hid (sumTo_succ s k hlt)
      have hc1 : (s[k].toNat : Int) ≤ 255 := by have := s[k].toNat_lt; omega
      go_wp2
      go_round
      case rel => exact ⟨k + 1, by omega, by go_num, by rw [HS.out]⟩
      case measure => simp [intOf]; omega
    · obtain rfl : k = s.size := by omega
      go_wp2
      go_ret
      exact ⟨ret_int (sumTo_all s), rfl⟩

set_option maxHeartbeats 400000 in
theorem implSumOf_c (s : ByteArray) (w : World) (hs : s.size ≤ maxLen) : Calls Tryz.prog 164 #[.string s] w fun e w' => e = .returned (.int .i64 (sumOfS s)) ∧ w = w' := by
  unfold maxLen at hs
  by_cases hb : s.size ≤ 65536
  case neg =>
    have hb' : decide (65536 < (s.size : Int)) = true := by simp; omega
    have HF := Lib.hid (sumOfS_no hb)
    go_enter Tryz.func164, Tryz.ntmps164
    go_wp2
    go_ret
    exact ⟨ret_int HF.out, rfl⟩
  have hb' : decide (65536 < (s.size : Int)) = false := by simp; omega
  have HF := Lib.hid (sumOfS_yes hb)
  go_enter Tryz.func164, Tryz.ntmps164
  go_wp2
  go_loop [3, 4] (fun n i => ∃ k : Nat, k ≤ s.size ∧ i = .int .i64 k ∧ n = .int .i64 (sumTo s k)) (fun _ i => s.size - (intOf i).toNat)
  case atStart => exact ⟨0, Nat.zero_le _, rfl, rfl⟩
  case round =>
    obtain ⟨k, hk, rfl, rfl⟩ := hrel
    obtain ⟨h1, h2⟩ := sumTo_bd s k
    by_cases hlt : k < s.size
    · have HS := Lib.hid (sumTo_succ s k hlt)
      have hc1 : (s[k].toNat : Int) ≤ 255 := by have := s[k].toNat_lt; omega
      go_wp2
      go_round
      case rel => exact ⟨k + 1, by omega, by go_num, by rw [HS.out, Int.mul_comm]⟩
      case measure => simp [intOf]; omega
    · obtain rfl : k = s.size := by omega
      go_wp2
      go_ret
      exact ⟨ret_int ((sumTo_all s).trans HF.out), rfl⟩
end Go.Proofs.YtehahodomfbpjaaGreatDoor
/- Contracts of the model's l02Six, l02Seal and l02Join: numbers' six digits, the sum's three behind a text, many numbers. Conditions: the numbers are from 0 to 999999. -/
namespace Go.Proofs.YtehahodomfbpjaaGreatDoor
set_option linter.unusedVariables false
set_option maxRecDepth 100000
open Go.RowKit

def sizeOfStr : Value → Nat | .string s => s.size | _ => 0
theorem ba_eq {s : ByteArray} {l : List UInt8} (h : s.data.toList = l) : s = ⟨l.toArray⟩ := by
  subst h; cases s; simp
theorem ba_app (s t : ByteArray) : (s ++ t).data.toList = s.data.toList ++ t.data.toList := by
  cases s; cases t; rw [ByteArray.mk_append_mk]
theorem ba_size (s : ByteArray) : s.size = s.data.toList.length := by rw [Array.length_toList]; rfl

theorem six_less {s t : ByteArray} (h : s.size < 6) (ht : 0 < t.size := by decide) : 6 - sizeOfStr (.string (t ++ s)) < 6 - sizeOfStr (.string s) := by
  show 6 - (t ++ s).size < 6 - s.size
  rw [ByteArray.size_append]
  omega
set_option maxHeartbeats 1000000 in
/-- A number's six digits, as the model tells them. -/
theorem l02Six_c (n : Nat) (w : World) (hn : n ≤ 999999) : Calls Tryz.prog 169 #[.int .i64 n] w fun e w' => e = .returned (.string ⟨(pad 6 n).toArray⟩) ∧ Nx w w' := by
  obtain ⟨hl, he⟩ := digs_pad 5 n (by omega)
  obtain ⟨hl1, _⟩ := digs_len hn
  have HE := Lib.hid he
  clear he
  go_enter Tryz.func169, Tryz.ntmps169
  go_wp2_with fail
  refine (l00Digits_c n _ hn).mono ?_
  rintro e w1 ⟨rfl, hnx1⟩
  obtain ⟨s0, Hs0⟩ : ∃ s : ByteArray, Hid ((⟨(digs n).toArray⟩ : ByteArray) = s) := ⟨_, rfl⟩
  rw [Hs0.out]
  go_wp2
  go_loop [3] (fun v => ∃ (s : ByteArray) (k : Nat), v = .string s ∧ k + (digs n).length ≤ 6 ∧ s.size ≤ 6 ∧ Hid (s.data.toList = List.replicate k 48 ++ digs n)) (fun v => 6 - sizeOfStr v)
  case atStart =>
    refine ⟨s0, 0, rfl, by omega, ?_, Lib.hid ?_⟩
    · rw [← Hs0.out]; simpa [ByteArray.size] using hl
    · rw [← Hs0.out]; simp
  case round =>
    obtain ⟨s, k, rfl, hk, hs6, HS⟩ := hrel
    have hsz : s.size = k + (digs n).length := by rw [ba_size, HS.out]; simp
    by_cases hlt : s.size < 6
    · have hd : decide ((s.size : Int) < 6) = true := by simp; omega
      have Hsz := Lib.hid hsz
      clear hsz
      go_wp2
      go_round
      case rel =>
        refine ⟨_, k + 1, rfl, by have := Hsz.out; omega, ?_, Lib.hid ?_⟩
        · rw [ba_size, ba_app]; simp; have := ba_size s; simp at this; omega
        · rw [ba_app, HS.out]; simp [List.replicate_succ]
      case measure => exact six_less hlt
    · have hd : decide ((s.size : Int) < 6) = false := by simp; omega
      have hk6 : k = 6 - (digs n).length := by omega
      have HK := Lib.hid hk6
      clear hsz hk6
      go_wp2
      go_ret
      refine ⟨ret_str (ba_eq ?_), hnx1⟩
      rw [HS.out, HK.out, HE.out]

/-- The sum's three digits. -/
def sumD (s : ByteArray) : List UInt8 := pad 3 (sumS s).toNat
theorem pad_drop (j k n : Nat) : (pad (k + j) n).drop k = pad j n ∧ True := by
  induction j generalizing n with
  | zero => refine ⟨?_, trivial⟩; show (pad k n).drop k = []; rw [List.drop_of_length_le (by rw [pad_len]; omega)]
  | succ j ih =>
    refine ⟨?_, trivial⟩
    show (pad (k + j) (n / 10) ++ [_]).drop k = pad j (n / 10) ++ [_]
    rw [List.drop_append_of_le_length (by rw [pad_len]; omega), (ih (n / 10)).1]
set_option maxHeartbeats 1000000 in
/-- A text and its sum behind, as the model tells it. -/
theorem l02Seal_c (s : ByteArray) (w : World) (hs : s.size ≤ 1048576) : Calls Tryz.prog 168 #[.string s] w fun e w' => e = .returned (.string (s ++ ⟨(sumD s).toArray⟩)) ∧ Nx w w' := by
  obtain ⟨h0, h1⟩ := sumL_bd s.data.toList
  obtain ⟨q, hq⟩ : ∃ q : Nat, sumS s = (q : Int) := ⟨(sumS s).toNat, by have : 0 ≤ sumS s := h0; omega⟩
  have hq6 : q ≤ 996 := by have : sumS s ≤ 996 := h1; omega
  have HD := Lib.hid (show sumD s = pad 3 q by unfold sumD; rw [hq]; rfl)
  have HQ := Lib.hid hq
  clear hq
  go_enter Tryz.func168, Tryz.ntmps168
  go_wp2_with fail
  refine (l02Sum_c s _ (by unfold maxLen; omega)).mono ?_
  rintro e w1 ⟨rfl, rfl⟩
  rw [HQ.out]
  go_wp2_with fail
  refine (l02Six_c q _ (by omega)).mono ?_
  rintro e w1 ⟨rfl, hnx1⟩
  obtain ⟨d, Hd⟩ : ∃ d : ByteArray, Hid ((⟨(pad 6 q).toArray⟩ : ByteArray) = d) := ⟨_, rfl⟩
  have hd6 : d.size = 6 := by rw [← Hd.out]; simp [ByteArray.size, pad_len]
  rw [Hd.out]
  have hd7 : 3 ≤ d.size := by omega
  have hd8 : d.size ≤ 6 := by omega
  have Hd6 := Lib.hid hd6
  clear hd6
  go_wp2
  go_ret
  refine ⟨ret_str ?_, hnx1⟩
  congr 1
  refine ba_eq ?_
  rw [Lib.extract_data, Hd6.out, HD.out, ← Hd.out]
  have h6 := (pad_drop 3 3 q).1
  simpa [List.take_of_length_le, pad_len] using h6

def intAt (ns : List Nat) (i : Nat) : Value := .int .i64 (ns.getD i 0 : Nat)
end Go.Proofs.YtehahodomfbpjaaGreatDoor
/- Contract of the program's padded: a number's digits, just so many. Conditions: the number is from 0 to 999999, and at most six digits are asked for. -/
namespace Go.Proofs.YtehahodomfbpjaaGreatDoor
set_option linter.unusedVariables false
set_option maxRecDepth 100000
open Go.RowKit

def padAt (k n i : Nat) : Nat := 48 + n / 10 ^ (k - 1 - i) % 10
theorem pad_get (k : Nat) : ∀ n i, i < k → (pad k n)[i]? = some (UInt8.ofNat (padAt k n i)) := by
  induction k with
  | zero => intro n i h; omega
  | succ k ih =>
    intro n i h
    show (pad k (n / 10) ++ [UInt8.ofNat (48 + n % 10)])[i]? = _
    by_cases hi : i < k
    · rw [List.getElem?_append_left (by rw [pad_len]; exact hi), ih _ _ hi]
      unfold padAt
      rw [Nat.div_div_eq_div_mul, show k + 1 - 1 - i = (k - 1 - i) + 1 by omega, Nat.pow_succ, Nat.mul_comm]
    · obtain rfl : i = k := by omega
      rw [List.getElem?_append_right (by rw [pad_len]; omega), pad_len, Nat.sub_self]
      unfold padAt
      simp
def digAt (k n i : Nat) : Value := .int .u8 ((padAt k n i : Nat) : Int)
theorem info_u8 : (Tryz.prog.info? 5).map (fun i => (i.zero, i.size, i.bytes)) = some (some (.int .u8 0), 1, 1) := by kernel_rfl
/-- A row that is filled from its end. -/
def Back (w : World) (g : Nat) (t : TypeId) (m r : Nat) (F : Nat → Value) : Prop := ∃ f, Own w g t m f ∧ ∀ i, r ≤ i → i < m → f i = F i
theorem Back.step {w : World} {g : Nat} {t : TypeId} {m k : Nat} {F : Nat → Value} (h : Back w g t m (k + 1) F) (hk : k < m) {v : Value} (hv : v = F k) : Back (w.setCell ⟨g, k, none⟩ v) g t m k F := by
  obtain ⟨f, h, hf⟩ := h
  refine ⟨_, h.set hk v, fun i hi hm => ?_⟩
  by_cases e : i = k
  · subst e; simp [hv]
  · simp only [if_neg e]; exact hf i (by omega) hm
theorem back_conv {W : World} {g k n : Nat} (h : Back W g 5 k 0 (digAt k n)) :
    (convert 58 9 (.slice (some ⟨g, 0, none⟩) k k)).run Tryz.prog W = .ok (.string ⟨(pad k n).toArray⟩) W := by
  obtain ⟨f, h, hf⟩ := h
  have := run_convert_bytes_back (P := Tryz.prog) W 58 9 5 ⟨g, 0, none⟩ k (pad k n) Tryz.underlying58 Tryz.underlying5 Tryz.underlying9 (fun j hj => by
    rw [pad_len] at hj
    have e : ((Addr.mk g 0 none).add j) = ⟨g, j, none⟩ := by
      unfold Addr.add
      by_cases h : j = 0
      · subst h; simp
      · simp [h]
    rw [e, h.cell hj, hf j (by omega) hj]
    have e2 := pad_get k n j hj
    rw [List.getElem?_eq_getElem (by rw [pad_len]; exact hj)] at e2
    injection e2 with e2
    rw [e2]
    unfold digAt
    have h3 : padAt k n j < 58 := by unfold padAt; omega
    have e3 : (UInt8.ofNat (padAt k n j)).toNat = padAt k n j := by
      rw [UInt8.toNat_ofNat']
      omega
    rw [e3])
  rw [pad_len] at this
  exact this

set_option maxHeartbeats 1000000 in
theorem padded_c (n k : Nat) (w : World) (hn : n ≤ 999999) (hk1 : 1 ≤ k) (hk6 : k ≤ 6) :
    Calls Tryz.prog 163 #[.int .i64 n, .int .i64 k] w fun e w' => e = .returned (.string ⟨(pad k n).toArray⟩) ∧ Nx w w' := by
  obtain ⟨i0, hi0, hz0, hz1, hz2⟩ := info_parts info_u8
  have hmk := fun W => run_make_rowN (P := Tryz.prog) 58 5 i0 _ Tryz.underlying58 hi0 hz0 .i64 .i64 k k (Nat.le_refl _) (by rw [hz2]; omega) (by omega) W
  rw [hz1] at hmk
  have hmade := Own.made w #[Value.int .u8 0] k 5
  go_enter Tryz.func163, Tryz.ntmps163
  go_wp2
  go_loopw [0, 6] (fun v i wr => ∃ r : Nat, r ≤ k ∧ i = .int .i64 ((r : Int) - 1) ∧ v = .int .i64 ((n / 10 ^ (k - r) : Nat) : Int) ∧ Back wr w.heap.size 5 k r (digAt k n) ∧ Nx w wr) (fun _ i _ => (intOf i + 1).toNat)
  case atStart => exact ⟨k, Nat.le_refl _, rfl, by simp, ⟨_, hmade, fun i h1 h2 => by omega⟩, (Nx.refl _).alloc _⟩
  case round =>
    obtain ⟨r, hr, rfl, rfl, hb, hnx⟩ := hrel
    clear hmk hmade
    rcases Nat.eq_zero_or_pos r with h0 | hp
    · subst h0
      have hcv := back_conv hb
      go_wp2
      go_ret
      exact ⟨rfl, hnx⟩
    · obtain ⟨j, rfl⟩ : ∃ j, r = j + 1 := ⟨r - 1, by omega⟩
      rw [show ((j + 1 : Nat) : Int) - 1 = (j : Int) by omega]
      obtain ⟨m, Hm⟩ : ∃ m, Hid (n / 10 ^ (k - (j + 1)) = m) := ⟨_, rfl⟩
      rw [Hm.out]
      have hm : m ≤ 999999 := by rw [← Hm.out]; exact Nat.le_trans (Nat.div_le_self _ _) hn
      have hm1 : (m : Int) % 10 ≤ 9 := by omega
      have hm2 : 0 ≤ (m : Int) % 10 := by omega
      have hjk : j < k := by omega
      have hjk' : (j : Int) < (k : Int) := by omega
      obtain ⟨v, hv⟩ : ∃ v, wr.cell? ⟨w.heap.size, j, none⟩ = some v := by obtain ⟨f, h, _⟩ := hb; exact ⟨_, h.cell hjk⟩
      have hz : wr.frozen? ⟨w.heap.size, j, none⟩ = false := by obtain ⟨f, h, _⟩ := hb; exact h.frozen j
      go_wp2
      go_roundw
      case rel =>
        refine ⟨j, by omega, rfl, ?_, hb.step hjk ?_, hnx.setCell (Nat.le_refl _) _⟩
        · rw [show k - j = (k - (j + 1)) + 1 by omega, Nat.pow_succ, ← Nat.div_div_eq_div_mul, Hm.out]; go_num
        · unfold digAt padAt; rw [show k - 1 - j = k - (j + 1) by omega, Hm.out]; go_num
      case measure => simp [intOf]
end Go.Proofs.YtehahodomfbpjaaGreatDoor
/- Contracts of strings.Builder's WriteString and String on a builder of the call's own. Conditions: at most 100000 bytes are written. -/
namespace Go.Proofs.YtehahodomfbpjaaGreatDoor
set_option linter.unusedVariables false
set_option maxRecDepth 100000
open Go.RowKit

/-- A builder of the call's own that holds the bytes l: its struct is block b, its row lies above b. -/
def Bd (w : World) (b : Nat) (l : List UInt8) : Prop := Lib.IsBuilder 186 5 b b (Lib.byteCells l) w
theorem BuilderAt.nx {T e : TypeId} {B b : Nat} {p : Value} {bs : List Value} {w w' : World} (h : Lib.BuilderAt T e B b p bs w) (hb : Nx w w') : Lib.BuilderAt T e B b p bs w' := by
  have hlt := h.lt
  obtain ⟨hB, v, h1, h2, h3⟩ := h
  refine ⟨hB, v, (hb.block b hlt).trans h1, ?_, h3⟩
  refine h2.kept (row := none) ⟨hb.os, hb.tape, hb.output, hb.size, fun i hi _ => hb.block i hi⟩ ?_
  cases hv : v.ownBlock with
  | none => exact .inl rfl
  | some g => exact .inr (by simp)
theorem Bd.nx {w w' : World} {b : Nat} {l : List UInt8} (h : Bd w b l) (hb : Nx w w') : Bd w' b l := h.imp (fun h => BuilderAt.nx h hb) (fun h => BuilderAt.nx h hb)
theorem Bd.new (w : World) : Bd (w.alloc (.cells #[.pointer none, .slice none 0 0] 186)) w.heap.size [] :=
  .inl ⟨Nat.le_refl _, _, heap_alloc_new w _, ⟨rfl, .inl ⟨rfl, rfl⟩⟩, by simp [Value.ownBlock]⟩
end Go.Proofs.YtehahodomfbpjaaGreatDoor
/- Contracts of FrameText, as the model has it. Conditions: none. -/
namespace Go.Proofs.YtehahodomfbpjaaGreatDoor
set_option linter.unusedVariables false
set_option maxRecDepth 100000
open Go.RowKit

/-- A text with its sum. -/
def sealS (s : ByteArray) : ByteArray := s ++ ⟨(sumD s).toArray⟩
end Go.Proofs.YtehahodomfbpjaaGreatDoor
/- Contracts of the program's numbersText and sealed. Conditions: the numbers are from 0 to 999999, at least one and at most 1000; a text of at most 65536 bytes is sealed. -/
namespace Go.Proofs.YtehahodomfbpjaaGreatDoor
set_option linter.unusedVariables false
set_option maxRecDepth 100000
open Go.RowKit

set_option maxHeartbeats 1000000 in
theorem sealed_c (s : ByteArray) (w : World) (hs : s.size ≤ 65536) : Calls Tryz.prog 90 #[.string s] w fun e w' => e = .returned (.string (sealS s)) ∧ Nx w w' := by
  obtain ⟨h0, h1⟩ := sumL_bd s.data.toList
  obtain ⟨q, hq⟩ : ∃ q : Nat, sumS s = (q : Int) := ⟨(sumS s).toNat, by have : 0 ≤ sumS s := h0; omega⟩
  have hq6 : q ≤ 996 := by have : sumS s ≤ 996 := h1; omega
  have HD := Lib.hid (show pad 3 q = sumD s by unfold sumD; rw [hq]; rfl)
  have HQ := Lib.hid hq
  clear hq
  go_enter Tryz.func90, Tryz.ntmps90
  go_wp2_with fail
  refine (implSumOf_c s _ (by unfold maxLen; omega)).mono ?_
  rintro e w1 ⟨rfl, rfl⟩
  rw [← sumOfS_yes hs, HQ.out]
  go_wp2_with fail
  refine (padded_c q 3 _ (by omega) (by omega) (by omega)).mono ?_
  rintro e w1 ⟨rfl, hnx1⟩
  obtain ⟨d, Hd⟩ : ∃ d : ByteArray, Hid ((⟨(pad 3 q).toArray⟩ : ByteArray) = d) := ⟨_, rfl⟩
  have hd6 : d.size ≤ 3 := by rw [← Hd.out]; simp [ByteArray.size, pad_len]
  rw [Hd.out]
  go_wp2
  go_ret
  exact ⟨ret_str (by unfold sealS; rw [← HD.out, Hd.out]), hnx1⟩
end Go.Proofs.YtehahodomfbpjaaGreatDoor
/- Rows of numbers that grow, as values and in memory. Conditions: none. -/
namespace Go.Proofs.YtehahodomfbpjaaGreatDoor
set_option linter.unusedVariables false
set_option maxRecDepth 100000
open Go.RowKit

def vI (n : Nat) : Value := .int .i64 (n : Int)
theorem owns_nx {w w' : World} {B : Nat} {e : TypeId} {v : Value} {n : Nat} {xs : List Value} (h : w.ownsRow B e 1 v n xs) (hb : Nx w w') : w'.ownsRow B e 1 v n xs := by
  refine h.kept (row := none) ⟨hb.os, hb.tape, hb.output, hb.size, fun i hi _ => hb.block i hi⟩ ?_
  cases hv : v.ownBlock with
  | none => exact .inl rfl
  | some g => exact .inr (by simp)
theorem owns_row {w : World} {B : Nat} {ns : List Nat} {v : Value} (h : w.ownsRow B 3 1 v ns.length (ns.map vI)) (hn : 0 < ns.length) :
    ∃ A c, v = .slice A ns.length c ∧ Row w w.heap.size A ns.length (intAt ns) := by
  obtain ⟨g, cap, rfl, _, hlt⟩ := h.form hn
  refine ⟨_, cap, rfl, fun _ => ⟨g, 0, rfl, hlt, fun i hi => ?_⟩⟩
  rw [Nat.zero_add, h.cellAt i (by omega), List.getElem?_map, List.getElem?_eq_getElem hi]
  unfold intAt vI
  rw [List.getD_eq_getElem?_getD, List.getElem?_eq_getElem hi]; rfl

end Go.Proofs.YtehahodomfbpjaaGreatDoor
/- Numbers read back from digits: what they are, and the contracts of the program's numberOf and numbersOf, and of the model's l02Numbers. Conditions: texts of at most 65536 bytes; the package's errors are known. -/
namespace Go.Proofs.YtehahodomfbpjaaGreatDoor
set_option linter.unusedVariables false
set_option maxRecDepth 100000
open Go.RowKit

/-- The package's two errors: a0 of a text that is none, a1 of one that is too long. -/
def Er (w : World) (a0 a1 : Addr) : Prop :=
  w.cell? ⟨0, 0, none⟩ = some (.iface 304 (.pointer (some a0))) ∧ w.cell? ⟨1, 0, none⟩ = some (.iface 304 (.pointer (some a1))) ∧ a0 ≠ a1 ∧
  (∃ ca ta, w.heap[a0.block]? = some (.cells ca ta (0, 0))) ∧ ∃ ca ta, w.heap[a1.block]? = some (.cells ca ta (0, 0))
theorem lt_of_heap {w : World} {g : Nat} {o : Obj} (h : w.heap[g]? = some o) : g < w.heap.size := by
  rcases Nat.lt_or_ge g w.heap.size with hlt | hge
  · exact hlt
  · rw [Array.getElem?_eq_none hge] at h; cases h
theorem Er.nx {w w' : World} {a0 a1 : Addr} (h : Er w a0 a1) (hb : Nx w w') : Er w' a0 a1 := by
  obtain ⟨h0, h1, hne, ⟨ca, ta, e0⟩, cb, tb, e1⟩ := h
  exact ⟨(hb.cell (p := ⟨0, 0, none⟩) (World.block_lt_of_cell? w _ h0)).trans h0, (hb.cell (p := ⟨1, 0, none⟩) (World.block_lt_of_cell? w _ h1)).trans h1, hne,
    ⟨ca, ta, (hb.block _ (lt_of_heap e0)).trans e0⟩, cb, tb, (hb.block _ (lt_of_heap e1)).trans e1⟩

def digI (c : Int) : Bool := decide (48 ≤ c) && decide (c ≤ 57)
def digC (c : UInt8) : Bool := digI (c.toNat : Int)
def digL (l : List UInt8) : Bool := l.all digC
def valL (l : List UInt8) : Nat := l.foldl (fun n c => 10 * n + (c.toNat - 48)) 0
theorem digI_yes {c : Int} (h : digI c = true) : 48 ≤ c ∧ c ≤ 57 := by unfold digI at h; simpa using h
theorem valL_snoc (l : List UInt8) (c : UInt8) : valL (l ++ [c]) = 10 * valL l + (c.toNat - 48) := by unfold valL; rw [List.foldl_append]; rfl
theorem digL_snoc (l : List UInt8) (c : UInt8) : digL (l ++ [c]) = (digL l && digC c) := by unfold digL; rw [List.all_append]; simp
theorem valL_bd : ∀ (n : Nat) {l : List UInt8}, l.length = n → digL l = true → valL l < 10 ^ n := by
  intro n
  induction n with
  | zero => intro l hl _; rw [List.length_eq_zero_iff.1 hl]; decide
  | succ n ih =>
    intro l hl h
    rcases List.eq_nil_or_concat l with rfl | ⟨l', c, rfl⟩
    · simp at hl
    · rw [List.concat_eq_append] at hl h ⊢
      rw [digL_snoc, Bool.and_eq_true] at h
      have h1 := ih (by simpa using hl) h.1
      have h2 := digI_yes (show digI (c.toNat : Int) = true from h.2)
      rw [valL_snoc, Nat.pow_succ]
      omega
theorem digL_no {l : List UInt8} {k : Nat} (hk : k < l.length) (h : digC l[k] = false) : digL l = false := by
  unfold digL
  rw [List.all_eq_false]
  exact ⟨l[k], List.getElem_mem hk, by rw [h]; simp⟩
theorem getL (s : ByteArray) (k : Nat) (hk : k < s.size) : s.data.toList[k]'(by simpa using hk) = s[k] := rfl
theorem digL_yes {l : List UInt8} {k : Nat} (h : digL l = true) (hk : k < l.length) : digC l[k] = true := List.all_eq_true.1 h _ (List.getElem_mem hk)

set_option maxHeartbeats 1000000 in
theorem isDigit_c (c : Int) (w : World) : Calls Tryz.prog 255 #[.int .u8 c] w fun e w' => e = .returned (.bool (digI c)) ∧ w = w' := by
  go_enter Tryz.func255, Tryz.ntmps255
  go_wp2
  all_goals (go_ret; refine ⟨ret_bool ?_, rfl⟩; unfold digI; rw [Bool.eq_iff_iff]; simp; try omega)
set_option maxHeartbeats 1000000 in
theorem l00Digit_c (c : Int) (w : World) : Calls Tryz.prog 207 #[.int .u8 c] w fun e w' => e = .returned (.bool (digI c)) ∧ w = w' := by
  go_enter Tryz.func207, Tryz.ntmps207
  go_wp2
  all_goals (go_ret; refine ⟨ret_bool ?_, rfl⟩; unfold digI; rw [Bool.eq_iff_iff]; simp; try omega)

def valTo (s : ByteArray) (k : Nat) : Nat := valL (s.data.toList.take k)
theorem valTo_succ (s : ByteArray) (k : Nat) (h : k < s.size) : valTo s (k + 1) = 10 * valTo s k + (s[k].toNat - 48) := by
  unfold valTo; rw [take_snoc s k h, valL_snoc]
theorem valTo_bd {s : ByteArray} {k : Nat} (hk : k ≤ 6) (h : digL (s.data.toList.take k) = true) : valTo s k < 1000000 := by
  have h1 := valL_bd _ rfl h
  have h2 : (s.data.toList.take k).length ≤ 6 := Nat.le_trans (List.length_take_le _ _) hk
  have h3 : 10 ^ (s.data.toList.take k).length ≤ 10 ^ 6 := Nat.pow_le_pow_right (by omega) h2
  unfold valTo
  omega
theorem num_step {n : Nat} {c : UInt8} (h1 : 48 ≤ (c.toNat : Int)) : 10 * (n : Int) + ((c.toNat : Int) - 48) = ((10 * n + (c.toNat - 48) : Nat) : Int) := by omega

def numV (s : ByteArray) (a0 : Addr) : Value := if digL s.data.toList then .tuple #[.int .i64 ((valL s.data.toList : Nat) : Int), .nilIface] else .tuple #[.int .i64 0, .iface 304 (.pointer (some a0))]
theorem numV_yes {s : ByteArray} {a0 : Addr} (h : digL s.data.toList = true) : .tuple #[.int .i64 ((valL s.data.toList : Nat) : Int), .nilIface] = numV s a0 := by unfold numV; rw [h]; rfl
theorem numV_no {s : ByteArray} {a0 : Addr} (h : digL s.data.toList = false) : .tuple #[.int .i64 0, .iface 304 (.pointer (some a0))] = numV s a0 := by unfold numV; rw [h]; rfl
def RetN (w : World) (v : Value) (e : Ending) (w' : World) : Prop := e = .returned v ∧ Nx w w'
set_option maxRecDepth 100000 in
set_option maxHeartbeats 1000000 in
theorem numberOf_c (s : ByteArray) (w : World) (a0 a1 : Addr) (hs : s.size = 6) (hE : Er w a0 a1) :
    Calls Tryz.prog 236 #[.string s] w (RetN w (numV s a0)) := by
  obtain ⟨c0, _⟩ := hE
  have hs6 : s.size ≤ 6 := by omega
  have Hs := Lib.hid hs
  clear hs
  go_enter Tryz.func236, Tryz.ntmps236
  go_wp2
  go_loop [4, 5] (fun n i => ∃ k : Nat, k ≤ s.size ∧ i = .int .i64 k ∧ digL (s.data.toList.take k) = true ∧ n = .int .i64 ((valTo s k : Nat) : Int)) (fun _ i => s.size - (intOf i).toNat)
  case atStart => exact ⟨0, Nat.zero_le _, rfl, rfl, rfl⟩
  case round =>
    obtain ⟨k, hk, rfl, hd, rfl⟩ := hrel
    have HD := Lib.hid hd
    clear hd
    by_cases hlt : k < s.size
    · have hbd := valTo_bd (s := s) (k := k) (by omega) HD.out
      have HV := Lib.hid (valTo_succ s k hlt)
      have HT := Lib.hid (take_snoc s k hlt)
      obtain ⟨m, Hm⟩ : ∃ m, Hid (valTo s k = m) := ⟨_, rfl⟩
      rw [Hm.out] at hbd HV ⊢
      cases hC : digI (s[k].toNat : Int) with
      | true =>
        obtain ⟨h1, h2⟩ := digI_yes hC
        have HC := Lib.hid hC
        clear hC
        go_wp2_with (go_at_call 255; refine (isDigit_c _ _).mono ?_; rintro e w' ⟨rfl, rfl⟩; rw [HC.out])
        go_round
        case rel => exact ⟨k + 1, by omega, by go_num, by rw [HT.out, digL_snoc, HD.out]; exact HC.out, by rw [HV.out, num_step h1]⟩
        case measure => simp [intOf]; omega
      | false =>
        have HC := Lib.hid hC
        have HF := Lib.hid (digL_no (l := s.data.toList) (k := k) (by simpa using hlt) (by rw [getL s k hlt]; exact hC))
        clear hC
        go_wp2_with (go_at_call 255; refine (isDigit_c _ _).mono ?_; rintro e w' ⟨rfl, rfl⟩; rw [HC.out])
        go_quiet (fail)
        go_wp2
        go_ret2
        exact ⟨congrArg Ending.returned (numV_no HF.out), (Nx.refl _).drewN _⟩
    · obtain rfl : k = s.size := by omega
      have e : s.data.toList.take s.size = s.data.toList := List.take_of_length_le (by simp)
      rw [e] at HD
      have HV := Lib.hid (show valTo s s.size = valL s.data.toList by unfold valTo; rw [e])
      rw [HV.out]
      clear e
      go_wp2
      go_ret2
      exact ⟨congrArg Ending.returned (numV_yes HD.out), Nx.refl _⟩
end Go.Proofs.YtehahodomfbpjaaGreatDoor
/- Texts parted at a byte: what the parts are, as the model's l00Cut and the library's Cut and Split have them. Conditions: none. -/
namespace Go.Proofs.YtehahodomfbpjaaGreatDoor
set_option linter.unusedVariables false
set_option maxRecDepth 100000
open Go.RowKit

/-- A text parted at each of a byte. -/
def cutL (c : UInt8) : List UInt8 → List (List UInt8)
  | [] => [[]]
  | x :: l => if x = c then [] :: cutL c l else (cutL c l).modifyHead (x :: ·)
theorem cutL_hit (c : UInt8) : ∀ (a b : List UInt8), c ∉ a → cutL c (a ++ c :: b) = a :: cutL c b
  | [], b, _ => by rw [List.nil_append, cutL, if_pos rfl]
  | x :: a, b, h => by
    have hx : x ≠ c := fun e => h (by simp [e])
    have ih := cutL_hit c a b (fun e => h (by simp [e]))
    rw [List.cons_append, cutL, if_neg hx, ih]; rfl
theorem cutL_miss (c : UInt8) : ∀ (a : List UInt8), c ∉ a → cutL c a = [a]
  | [], _ => rfl
  | x :: a, h => by
    have hx : x ≠ c := fun e => h (by simp [e])
    have ih := cutL_miss c a (fun e => h (by simp [e]))
    rw [cutL, if_neg hx, ih]; rfl
theorem part_at (c : UInt8) : ∀ (s : List UInt8), c ∉ s ∨ ∃ a b, c ∉ a ∧ s = a ++ c :: b
  | [] => .inl (by simp)
  | x :: l => by
    by_cases hx : x = c
    · subst hx; exact .inr ⟨[], l, by simp, rfl⟩
    · rcases part_at c l with h | ⟨a, b, h, e⟩
      · exact .inl (by simp [h, Ne.symm hx])
      · exact .inr ⟨x :: a, b, by simp [h, Ne.symm hx], by rw [e]; rfl⟩
theorem cutL_pos (c : UInt8) (s : List UInt8) : 1 ≤ (cutL c s).length := by
  rcases part_at c s with h | ⟨a, b, h, e⟩
  · rw [cutL_miss c s h]; simp
  · rw [e, cutL_hit c a b h]; simp
theorem cutL_one {c : UInt8} {s : List UInt8} (h : (cutL c s).length = 1) : c ∉ s := by
  rcases part_at c s with h1 | ⟨a, b, h1, e⟩
  · exact h1
  · rw [e, cutL_hit c a b h1] at h
    have := cutL_pos c b
    simp only [List.length_cons] at h
    omega
theorem cutL_two {c : UInt8} {s : List UInt8} (h : (cutL c s).length = 2) : ∃ a b, cutL c s = [a, b] ∧ s = a ++ c :: b ∧ c ∉ a ∧ c ∉ b := by
  rcases part_at c s with h1 | ⟨a, b, h1, e⟩
  · rw [cutL_miss c s h1] at h; simp at h
  · have h2 := cutL_hit c a b h1
    rw [e, h2] at h
    have h3 : c ∉ b := cutL_one (by simpa using h)
    exact ⟨a, b, by rw [e, h2, cutL_miss c b h3], e, h1, h3⟩
theorem cutL_mem {c x : UInt8} (hx : x ≠ c) : ∀ {s : List UInt8}, x ∈ s → ∃ p ∈ cutL c s, x ∈ p
  | [], h => by simp at h
  | y :: l, h => by
    by_cases hy : y = c
    · subst hy
      have h2 : x ∈ l := by
        rcases List.mem_cons.1 h with e | e
        · exact absurd e hx
        · exact e
      obtain ⟨p, hp, hxp⟩ := cutL_mem hx h2
      exact ⟨p, by rw [cutL, if_pos rfl]; exact List.mem_cons_of_mem _ hp, hxp⟩
    · rw [cutL, if_neg hy]
      rcases hc : cutL c l with _ | ⟨q, qs⟩
      · have := cutL_pos c l; rw [hc] at this; simp at this
      · rcases List.mem_cons.1 h with e | e
        · exact ⟨y :: q, by simp, by simp [e]⟩
        · obtain ⟨p, hp, hxp⟩ := cutL_mem hx e
          rw [hc] at hp
          rcases List.mem_cons.1 hp with rfl | hp
          · exact ⟨y :: p, by simp, by simp [hxp]⟩
          · exact ⟨p, by simp [hp], hxp⟩
theorem cutL_size (c : UInt8) : ∀ (s : List UInt8), (cutL c s).length ≤ s.length + 1
  | [] => by simp [cutL]
  | x :: l => by
    have := cutL_size c l
    rw [cutL]
    split
    · simp; omega
    · simp; omega
theorem cutL_part {c : UInt8} {s p : List UInt8} (h : p ∈ cutL c s) : p.length ≤ s.length := by
  induction s generalizing p with
  | nil => simp [cutL] at h; subst h; simp
  | cons x l ih =>
    rw [cutL] at h
    split at h
    · rcases List.mem_cons.1 h with rfl | h
      · simp
      · have := ih h; simp; omega
    · rcases hc : cutL c l with _ | ⟨q, qs⟩
      · rw [hc] at h; simp at h
      · rw [hc] at h
        simp only [List.modifyHead_cons, List.mem_cons] at h
        rcases h with rfl | h
        · have := ih (p := q) (by rw [hc]; simp); simp; omega
        · have := ih (p := p) (by rw [hc]; simp [h]); simp; omega

theorem index_cons_ne {b c : UInt8} {l : List UInt8} (h : b ≠ c) : Lib.index (b :: l) [c] = if Lib.index l [c] == -1 then -1 else Lib.index l [c] + 1 := by
  have hp : ([c] : List UInt8).isPrefixOf (b :: l) = false := by simp [List.isPrefixOf, Ne.symm h]
  rw [Lib.index, hp]; simp
theorem index_cons_eq (c : UInt8) (l : List UInt8) : Lib.index (c :: l) [c] = 0 := by rw [Lib.index]; simp [List.isPrefixOf]
theorem index_miss {c : UInt8} : ∀ {s : List UInt8}, c ∉ s → Lib.index s [c] = -1
  | [], _ => rfl
  | x :: l, h => by
    have hx : x ≠ c := fun e => h (by simp [e])
    rw [index_cons_ne hx, index_miss (fun e => h (by simp [e]))]; rfl
theorem index_hit {c : UInt8} : ∀ {a b : List UInt8}, c ∉ a → Lib.index (a ++ c :: b) [c] = a.length
  | [], b, _ => index_cons_eq c b
  | x :: a, b, h => by
    have hx : x ≠ c := fun e => h (by simp [e])
    have ih := index_hit (c := c) (a := a) (b := b) (fun e => h (by simp [e]))
    rw [List.cons_append, index_cons_ne hx, ih, if_neg (by simp)]
    simp
theorem cut_miss {c : UInt8} {s : List UInt8} (h : c ∉ s) : Lib.cut s [c] = (s, [], false) := by
  unfold Lib.cut; rw [index_miss h]; rfl
theorem cut_hit {c : UInt8} {a b : List UInt8} (h : c ∉ a) : Lib.cut (a ++ c :: b) [c] = (a, b, true) := by
  unfold Lib.cut
  rw [index_hit h, if_pos (by omega)]
  have e : (a ++ c :: b).drop (a.length + 1) = b := by
    rw [show a ++ c :: b = (a ++ [c]) ++ b by simp, List.drop_left' (by simp)]
  simp [e]
theorem splitK_cutL (c : UInt8) : ∀ l : List UInt8, Lib.splitK [c] 0 (l.count c) l = cutL c l
  | [] => rfl
  | x :: l => by
    have ih := splitK_cutL c l
    by_cases hx : x = c
    · subst hx
      rw [List.count_cons_self, Lib.splitK, index_cons_eq, if_neg (by decide), cutL, if_pos rfl, ← ih]; rfl
    · rw [List.count_cons_of_ne (by simpa using hx), cutL, if_neg hx, ← ih]
      have hi := index_cons_ne (l := l) hx
      cases hk : l.count c with
      | zero => rfl
      | succ k =>
        rw [Lib.splitK, Lib.splitK, hi]
        have hge := Lib.index_ge l [c]
        by_cases hm : Lib.index l [c] = -1
        · rw [hm]; rfl
        · obtain ⟨j, hj⟩ : ∃ j : Nat, Lib.index l [c] = j := ⟨(Lib.index l [c]).toNat, by omega⟩
          have h1 : ((j : Int) == -1) = false := by rw [beq_eq_false_iff_ne]; omega
          have h2 : ((j : Int) + 1 == -1) = false := by rw [beq_eq_false_iff_ne]; omega
          have h3 : ((j : Int) + 1).toNat = j + 1 := by omega
          rw [hj, h1]
          simp [h2, h3]

def baL (l : List UInt8) : ByteArray := ⟨l.toArray⟩
theorem baL_list (l : List UInt8) : (baL l).data.toList = l := rfl
theorem baL_size (l : List UInt8) : (baL l).size = l.length := by simp [baL, ByteArray.size]
/-- The parts as texts. -/
def cutB (c : UInt8) (t : ByteArray) : List ByteArray := (cutL c t.data.toList).map baL
theorem cutB_len (c : UInt8) (t : ByteArray) : (cutB c t).length = (cutL c t.data.toList).length := by unfold cutB; simp
theorem cutB_split (c : UInt8) (t : ByteArray) : Lib.splitB ⟨#[c]⟩ 0 (Lib.countB t ⟨#[c]⟩) t = cutB c t := by
  have h := Lib.splitB_data ⟨#[c]⟩ 0 (Lib.countB t ⟨#[c]⟩) t
  have h2 : Lib.countB t ⟨#[c]⟩ = t.data.toList.count c := Lib.count_one c t.data.toList
  rw [h2] at h ⊢
  have h3 : Lib.splitK (⟨#[c]⟩ : ByteArray).data.toList 0 (t.data.toList.count c) t.data.toList = cutL c t.data.toList := splitK_cutL c _
  rw [h3] at h
  unfold cutB
  rw [← h, List.map_map]
  conv => lhs; rw [← List.map_id (Lib.splitB ⟨#[c]⟩ 0 (t.data.toList.count c) t)]
  exact List.map_congr_left fun x _ => rfl
theorem cutB_count (c : UInt8) (t : ByteArray) : Lib.countB t ⟨#[c]⟩ + 1 = (cutB c t).length := by
  rw [← cutB_split, Lib.splitB_all ⟨#[c]⟩ (by simp [ByteArray.size]) 0 _ t rfl]
theorem cutB_part {c : UInt8} {t : ByteArray} (k : Nat) : ((cutB c t).getD k ByteArray.empty).size ≤ t.size := by
  by_cases hk : k < (cutL c t.data.toList).length
  · unfold cutB
    rw [List.getD_eq_getElem?_getD, List.getElem?_map, List.getElem?_eq_getElem hk, Option.map_some, Option.getD_some, baL_size, ba_size]
    exact cutL_part (List.getElem_mem _)
  · rw [List.getD_eq_getElem?_getD, List.getElem?_eq_none (by rw [cutB_len]; omega)]
    exact Nat.zero_le _
end Go.Proofs.YtehahodomfbpjaaGreatDoor
/- Contracts of the program's numbersOf and of the model's l02Numbers: the numbers of a text of digits. Conditions: texts of at most 65536 bytes; the package's errors are known. -/
namespace Go.Proofs.YtehahodomfbpjaaGreatDoor
set_option linter.unusedVariables false
set_option maxRecDepth 100000
open Go.RowKit

def chunk (l : List UInt8) (j : Nat) : List UInt8 := (l.drop (6 * j)).take 6
def numsOf (l : List UInt8) (k : Nat) : List Nat := (List.range k).map fun j => valL (chunk l j)
theorem numsOf_len (l : List UInt8) (k : Nat) : (numsOf l k).length = k := by simp [numsOf]
theorem numsOf_succ (l : List UInt8) (k : Nat) : numsOf l (k + 1) = numsOf l k ++ [valL (chunk l k)] := by simp [numsOf, List.range_succ]
/-- The numbers of a text, if it is one of numbers. -/
def numsO (l : List UInt8) : Option (List Nat) := if l.length % 6 = 0 ∧ digL l = true then some (numsOf l (l.length / 6)) else none
theorem numsO_yes {l : List UInt8} (h1 : l.length % 6 = 0) (h2 : digL l = true) : numsO l = some (numsOf l (l.length / 6)) := by unfold numsO; rw [if_pos ⟨h1, h2⟩]
theorem numsO_no {l : List UInt8} (h : l.length % 6 ≠ 0 ∨ digL l = false) : numsO l = none := by
  unfold numsO; rw [if_neg]; rintro ⟨h1, h2⟩
  rcases h with h | h
  · exact h h1
  · rw [h] at h2; cases h2
theorem chunk_all {l : List UInt8} (h : digL l = true) (j : Nat) : digL (chunk l j) = true := by
  unfold digL at *
  rw [List.all_eq_true] at *
  exact fun x hx => h x (List.mem_of_mem_drop (List.mem_of_mem_take hx))
theorem chunk_no {l : List UInt8} {j : Nat} (h : digL (chunk l j) = false) : digL l = false := by
  cases h2 : digL l with
  | false => rfl
  | true => rw [chunk_all h2 j] at h; cases h
def RetNums (w : World) (o : Option (List Nat)) (a0 : Addr) (e : Ending) (w' : World) : Prop :=
  Nx w w' ∧ (o = none → e = .returned (.tuple #[.slice none 0 0, .iface 304 (.pointer (some a0))])) ∧
  ∀ ns, o = some ns → ∃ A c, e = .returned (.tuple #[.slice A ns.length c, .nilIface]) ∧ Row w' w'.heap.size A ns.length (intAt ns) ∧ ns.length ≤ c
theorem RetNums.no {w w' : World} {o : Option (List Nat)} {a0 : Addr} (h : o = none) (hn : Nx w w') : RetNums w o a0 (.returned (.tuple #[.slice none 0 0, .iface 304 (.pointer (some a0))])) w' :=
  ⟨hn, fun _ => rfl, fun ns h2 => by rw [h] at h2; cases h2⟩
theorem RetNums.yes {w w' : World} {o : Option (List Nat)} {a0 : Addr} {ns : List Nat} {A : Option Addr} {c : Nat} (h : o = some ns) (hr : Row w' w'.heap.size A ns.length (intAt ns)) (hc : ns.length ≤ c) (hn : Nx w w') : RetNums w o a0 (.returned (.tuple #[.slice A ns.length c, .nilIface])) w' :=
  ⟨hn, (fun h2 => by rw [h] at h2; cases h2), fun ns' h2 => by rw [h] at h2; injection h2 with h2; subst h2; exact ⟨A, c, rfl, hr, hc⟩⟩
theorem owns_row0 {w : World} {B : Nat} {ns : List Nat} {v : Value} (h : w.ownsRow B 3 1 v ns.length (ns.map vI)) :
    ∃ A c, v = .slice A ns.length c ∧ Row w w.heap.size A ns.length (intAt ns) ∧ ns.length ≤ c := by
  rcases Nat.eq_zero_or_pos ns.length with h0 | hp
  · rcases h.2 with ⟨rfl, _⟩ | ⟨g, cap, cur, rfl, _⟩
    · exact ⟨none, 0, by rw [h0], (fun hn => by omega), by omega⟩
    · exact ⟨_, cap, rfl, (fun hn => by omega), by omega⟩
  · obtain ⟨A, c, e, hr⟩ := owns_row h hp
    refine ⟨A, c, e, hr, ?_⟩
    rcases h.2 with ⟨rfl, _⟩ | ⟨g, cap, cur, rfl, _, _, hnc, _⟩
    · injection e with _ e2 e3
      omega
    · injection e with _ e2 e3
      omega
theorem Own.new1 (w : World) (t : TypeId) (a : Value) : Own (w.alloc (.cells #[a] t)) w.heap.size t 1 (fun _ => a) :=
  ⟨_, heap_alloc_new w _, by simp, fun i hi => by obtain rfl : i = 0 := by omega
                                                  rfl⟩
theorem news1 (w : World) (t : TypeId) (x : Value) : ∀ j u, [x][j]? = some u → (w.alloc (.cells #[x] t)).cell? ((Addr.mk w.heap.size 0 none).add j) = some u := fun j u hj => by
  rcases j with _ | j
  · injection hj with hj; subst hj; exact ((Own.new1 w t x).cell (i := 0) (by omega))
  · simp at hj

set_option maxRecDepth 100000 in
set_option maxHeartbeats 2000000 in
theorem numbersOf_c (s : ByteArray) (w : World) (a0 a1 : Addr) (hs : s.size ≤ 65536) (hE : Er w a0 a1) :
    Calls Tryz.prog 197 #[.string s] w (RetNums w (numsO s.data.toList) a0) := by
  obtain ⟨i0, hi0, hz0, hz1, hz2⟩ := info_parts info_int
  by_cases h6 : s.size % 6 = 0
  case neg =>
    have hne : ((s.size : Int) % 6 != 0) = true := by rw [bne_iff_ne]; omega
    have HN := Lib.hid (numsO_no (l := s.data.toList) (.inl (by rw [← ba_size]; exact h6)))
    obtain ⟨c0, _⟩ := hE
    go_enter Tryz.func197, Tryz.ntmps197
    go_wp2
    go_quiet (fail)
    go_wp2
    go_ret2
    exact RetNums.no HN.out ((Nx.refl _).drewN _)
  have hne : ((s.size : Int) % 6 != 0) = false := by rw [bne_eq_false_iff_eq]; omega
  obtain ⟨N, hN⟩ : ∃ N, s.size = 6 * N := ⟨s.size / 6, by omega⟩
  have HN := Lib.hid hN
  clear hN h6
  go_enter Tryz.func197, Tryz.ntmps197
  go_wp2
  go_loopw [4, 5] (fun z i wr => ∃ (k p : Nat) (v : Value), p ≤ s.size ∧ Hid (p = 6 * k) ∧ i = .int .i64 p ∧ v = z ∧ wr.ownsRow w.heap.size 3 1 v k ((numsOf s.data.toList k).map vI) ∧ Hid (∀ j, j < k → digL (chunk s.data.toList j) = true) ∧ Nx w wr) (fun _ i _ => s.size - (intOf i).toNat)
  case atStart => exact ⟨0, 0, _, Nat.zero_le _, Lib.hid rfl, rfl, rfl, ⟨rfl, .inl ⟨rfl, rfl⟩⟩, Lib.hid (fun j hj => by omega), Nx.refl _⟩
  case round =>
    obtain ⟨k, p, v, hp, HP, rfl, rfl, hw, HD, hnx⟩ := hrel
    have hEr := hE.nx hnx
    by_cases hlt : p < s.size
    · have hp6 : p + 6 ≤ s.size := by have := HP.out; have := HN.out; omega
      have hp7 : (p : Int) + 6 ≤ (s.size : Int) := by omega
      have hcs : (s.extract p (p + 6)).data.toList = chunk s.data.toList k := by
        rw [Lib.extract_data, HP.out, show 6 * k + 6 - 6 * k = 6 by omega]; rfl
      have hcz : (s.extract p (p + 6)).size = 6 := by
        rw [ba_size, hcs]; unfold chunk; rw [List.length_take, List.length_drop, ← ba_size]; have := HP.out; omega
      have HCS := Lib.hid hcs
      have HCZ := Lib.hid hcz
      have hk9 : k ≤ 10923 := by have := HP.out; omega
      clear hcs hcz
      cases hdc : digL (chunk s.data.toList k) with
      | false =>
        have HF := Lib.hid (numsO_no (l := s.data.toList) (.inr (chunk_no hdc)))
        have HDC := Lib.hid hdc
        clear hdc
        go_wp2_with fail
        refine (numberOf_c (s.extract p (p + 6)) _ a0 a1 HCZ.out hEr).mono ?_
        rintro e w1 ⟨rfl, hnx1⟩
        rw [← numV_no (by rw [HCS.out]; exact HDC.out)]
        go_wp2
        go_ret2
        exact RetNums.no HF.out (hnx.trans hnx1)
      | true =>
        have HDC := Lib.hid hdc
        have hx9 := valL_bd _ rfl hdc
        clear hdc
        obtain ⟨x, Hx⟩ : ∃ x, Hid (valL (chunk s.data.toList k) = x) := ⟨_, rfl⟩
        clear hx9
        go_wp2_with fail
        refine (numberOf_c (s.extract p (p + 6)) _ a0 a1 HCZ.out hEr).mono ?_
        rintro e w1 ⟨rfl, hnx1⟩
        rw [← numV_yes (by rw [HCS.out]; exact HDC.out), HCS.out, Hx.out]
        have hx1 := (hnx.trans hnx1).alloc (.cells #[.int .i64 x] 3)
        have hw1 := (owns_nx hw hnx1).alloc (.cells #[.int .i64 x] 3)
        have HNW := Lib.hid (news1 w1 3 (.int .i64 x))
        have HO : Hid (∀ u ∈ [Value.int .i64 (x : Int)], u.oneCell' = true) := Lib.hid (fun u hu => by simp only [List.mem_cons, List.not_mem_nil, or_false] at hu; subst hu; rfl)
        go_wp2_with (at_builtin; refine wpList_append_own _ rfl _ _ 27 rfl w.heap.size 3 i0 _ 1 8 Tryz.underlying27 hi0 hz0 hz1 hz2 rfl (by omega) v k _ rfl hw1 ⟨w1.heap.size, 0, none⟩ 1 1 [.int .i64 x] rfl rfl HNW.out HO.out ?c3 ?c4 ?c5 ?_)
        case c3 => unfold maxLen; omega
        case c4 => omega
        case c5 => have := hx1.size; simp only [World.size_alloc] at this ⊢; omega
        intro v2 w2 hw2 hg2 _
        have hx2 : Nx w w2 := Below.grown hx1 hg2 hx1.size (fun k hk => (hw1.lt k hk).1)
        go_wp2
        go_roundw
        case rel =>
          refine ⟨k + 1, p + 6, v2, by omega, Lib.hid (by have := HP.out; omega), by go_num, rfl, ?_, Lib.hid ?_, hx2⟩
          · rw [numsOf_succ, List.map_append, Hx.out]; exact hw2
          · intro j hj
            rcases Nat.lt_or_ge j k with hlt | hge
            · exact HD.out j hlt
            · obtain rfl : j = k := by omega
              exact HDC.out
        case measure => simp [intOf]; omega
    · obtain rfl : p = s.size := by omega
      obtain rfl : k = N := by have := HP.out; have := HN.out; omega
      have hlen := numsOf_len s.data.toList k
      have hw' : wr.ownsRow w.heap.size 3 1 v (numsOf s.data.toList k).length ((numsOf s.data.toList k).map vI) := by rw [hlen]; exact hw
      obtain ⟨A, c, rfl, hrow, hcp⟩ := owns_row0 hw'
      have HCP := Lib.hid hcp
      clear hcp
      have hall : digL s.data.toList = true := by
        unfold digL
        rw [List.all_eq_true]
        intro x hx
        obtain ⟨i, hi, rfl⟩ := List.mem_iff_getElem.1 hx
        have hi' : i < s.size := by rw [ba_size]; exact hi
        have h1 := HD.out (i / 6) (by have := HP.out; omega)
        unfold digL at h1
        rw [List.all_eq_true] at h1
        apply h1
        unfold chunk
        rw [List.mem_iff_getElem]
        refine ⟨i % 6, by rw [List.length_take, List.length_drop]; omega, ?_⟩
        rw [List.getElem_take, List.getElem_drop]
        congr 1
        omega
      have HO := Lib.hid (numsO_yes (l := s.data.toList) (by rw [← ba_size]; have := HP.out; omega) hall)
      have hdiv : s.data.toList.length / 6 = k := by rw [← ba_size]; have := HP.out; omega
      rw [hdiv] at HO
      clear hw hw' hall hlen hdiv
      go_wp2
      go_ret2
      exact RetNums.yes HO.out hrow HCP.out hnx
end Go.Proofs.YtehahodomfbpjaaGreatDoor
/- Contract of the model's l02Numbers: the numbers of a text of digits. Conditions: texts of at most 65536 bytes. -/
namespace Go.Proofs.YtehahodomfbpjaaGreatDoor
set_option linter.unusedVariables false
set_option maxRecDepth 100000
open Go.RowKit

def RetNB (w : World) (o : Option (List Nat)) (e : Ending) (w' : World) : Prop :=
  ∃ A n c, e = .returned (.tuple #[.slice A n c, .bool o.isSome]) ∧ (∀ ns, o = some ns → n = ns.length ∧ Row w' w'.heap.size A n (intAt ns) ∧ n ≤ c) ∧ Nx w w'
theorem owns_new0 (w : World) (t : TypeId) {B : Nat} (hB : B ≤ w.heap.size) : (w.alloc (.cells #[] t)).ownsRow B t 1 (.slice (some ⟨w.heap.size, 0, none⟩) 0 0) 0 [] :=
  ⟨rfl, .inr ⟨_, 0, #[], rfl, hB, heap_alloc_new w _, by omega, by unfold maxLen; omega, rfl, rfl⟩⟩
def valFrom (s : ByteArray) (p j : Nat) : Nat := valL ((s.data.toList.drop p).take j)
theorem valFrom_succ (s : ByteArray) (p j : Nat) (h : p + j < s.size) : valFrom s p (j + 1) = 10 * valFrom s p j + (s[p + j].toNat - 48) := by
  unfold valFrom
  have hl : j < (s.data.toList.drop p).length := by rw [List.length_drop, ← ba_size]; omega
  rw [List.take_succ_eq_append_getElem hl, valL_snoc]
  simp only [List.getElem_drop]
  rfl
theorem valFrom_bd {s : ByteArray} {p j : Nat} (hj : j ≤ 6) (h : digL s.data.toList = true) : valFrom s p j < 1000000 := by
  have h0 : digL ((s.data.toList.drop p).take j) = true := by
    unfold digL at *
    rw [List.all_eq_true] at *
    exact fun x hx => h x (List.mem_of_mem_drop (List.mem_of_mem_take hx))
  have h1 := valL_bd _ rfl h0
  have h2 : ((s.data.toList.drop p).take j).length ≤ 6 := Nat.le_trans (List.length_take_le _ _) hj
  have h3 : 10 ^ ((s.data.toList.drop p).take j).length ≤ 10 ^ 6 := Nat.pow_le_pow_right (by omega) h2
  unfold valFrom
  omega
theorem dig_at {s : ByteArray} (h : digL s.data.toList = true) (k : Nat) (hk : k < s.size) : 48 ≤ (s[k].toNat : Int) ∧ (s[k].toNat : Int) ≤ 57 :=
  digI_yes (show digC s[k] = true by rw [← getL s k hk]; exact digL_yes h _)

set_option maxRecDepth 100000 in
set_option maxHeartbeats 4000000 in
theorem l02Numbers_c (s : ByteArray) (w : World) (hs : s.size ≤ 65536) :
    Calls Tryz.prog 128 #[.string s] w (RetNB w (numsO s.data.toList)) := by
  obtain ⟨i0, hi0, hz0, hz1, hz2⟩ := info_parts info_int
  have hw0 := owns_new0 w 3 (Nat.le_refl _)
  have hn0 := (Nx.refl w).alloc (.cells #[] 3)
  go_enter Tryz.func128, Tryz.ntmps128
  go_wp2
  go_loop [5] (fun i => ∃ k : Nat, k ≤ s.size ∧ i = .int .i64 k ∧ Hid (digL (s.data.toList.take k) = true)) (fun i => s.size - (intOf i).toNat)
  case atStart => exact ⟨0, Nat.zero_le _, rfl, Lib.hid rfl⟩
  case round =>
    obtain ⟨k, hk, rfl, HD⟩ := hrel
    by_cases hlt : k < s.size
    · have HT := Lib.hid (take_snoc s k hlt)
      cases hC : digI (s[k].toNat : Int) with
      | true =>
        have HC := Lib.hid hC
        clear hC
        go_wp2_with (go_at_call 207; refine (l00Digit_c _ _).mono ?_; rintro e w' ⟨rfl, rfl⟩; rw [HC.out])
        go_round
        case rel => exact ⟨k + 1, by omega, by go_num, Lib.hid (by rw [HT.out, digL_snoc, HD.out]; exact HC.out)⟩
        case measure => simp [intOf]; omega
      | false =>
        have HC := Lib.hid hC
        have HF := Lib.hid (numsO_no (.inr (digL_no (l := s.data.toList) (k := k) (by simpa using hlt) (by rw [getL s k hlt]; exact hC))))
        clear hC
        go_wp2_with (go_at_call 207; refine (l00Digit_c _ _).mono ?_; rintro e w' ⟨rfl, rfl⟩; rw [HC.out])
        go_ret2
        rw [HF.out]
        exact ⟨_, _, _, rfl, (fun ns h => by cases h), hn0.alloc _⟩
    · obtain rfl : k = s.size := by omega
      have hall : digL s.data.toList = true := by
        have := HD.out
        rwa [List.take_of_length_le (by simp)] at this
      have HA := Lib.hid hall
      clear HD hall
      generalize w.alloc (.cells #[] 3) = W at *
      go_wp2
      go_loopw [4, 6] (fun z i wr => ∃ (k p : Nat) (v : Value), p ≤ s.size ∧ Hid (p = 6 * k) ∧ i = .int .i64 p ∧ v = z ∧ wr.ownsRow w.heap.size 3 1 v k ((numsOf s.data.toList k).map vI) ∧ Nx w wr) (fun _ i _ => s.size - (intOf i).toNat)
      case atStart => exact ⟨0, 0, _, Nat.zero_le _, Lib.hid rfl, rfl, rfl, hw0, hn0⟩
      case round =>
        obtain ⟨k, p, v, hp, HP, rfl, rfl, hw, hnx⟩ := hrel
        clear hw0 hn0
        by_cases hlt : p + 6 ≤ s.size
        · have hd6 : decide ((p : Int) + 6 ≤ (s.size : Int)) = true := by simp; omega
          have hk9 : k ≤ 10923 := by have := HP.out; omega
          go_wp2
          go_loop [7, 8] (fun n i => ∃ j : Nat, j ≤ 6 ∧ i = .int .i64 ((p + j : Nat) : Int) ∧ n = .int .i64 ((valFrom s p j : Nat) : Int)) (fun _ i => p + 6 - (intOf i).toNat)
          case atStart => exact ⟨0, by omega, rfl, rfl⟩
          case round =>
            obtain ⟨j, hj, rfl, rfl⟩ := hrel
            have hbd := valFrom_bd (s := s) (p := p) hj HA.out
            by_cases hj6 : j < 6
            · have hpj : p + j < s.size := by omega
              obtain ⟨d1, d2⟩ := dig_at HA.out (p + j) hpj
              have HV := Lib.hid (valFrom_succ s p j hpj)
              obtain ⟨m, Hm⟩ : ∃ m, Hid (valFrom s p j = m) := ⟨_, rfl⟩
              rw [Hm.out] at hbd HV ⊢
              obtain ⟨q, Hq⟩ : ∃ q, Hid (p + j = q) := ⟨_, rfl⟩
              have hq1 : q < p + 6 := by have := Hq.out; omega
              have hdq : decide ((q : Int) < (p : Int) + 6) = true := by simp; omega
              simp only [Hq.out] at hpj d1 d2 HV ⊢
              go_wp2
              go_round
              case rel => exact ⟨j + 1, by omega, by rw [show p + (j + 1) = q + 1 by have := Hq.out; omega]; go_num, by rw [HV.out, num_step d1]⟩
              case measure => simp [intOf]; omega
            · obtain rfl : j = 6 := by omega
              have hdq : decide (((p + 6 : Nat) : Int) < (p : Int) + 6) = false := by simp
              have hxe : valFrom s p 6 = valL (chunk s.data.toList k) := by unfold valFrom chunk; rw [HP.out]
              obtain ⟨x, Hx⟩ : ∃ x, Hid (valFrom s p 6 = x) := ⟨_, rfl⟩
              rw [Hx.out] at hbd hxe ⊢
              have HXE := Lib.hid hxe
              clear hxe
              have hx1 := hnx.alloc (.cells #[.int .i64 x] 3)
              have hw1 := hw.alloc (.cells #[.int .i64 x] 3)
              have HNW := Lib.hid (news1 wr 3 (.int .i64 x))
              have HO : Hid (∀ u ∈ [Value.int .i64 (x : Int)], u.oneCell' = true) := Lib.hid (fun u hu => by simp only [List.mem_cons, List.not_mem_nil, or_false] at hu; subst hu; rfl)
              go_wp2_with (at_builtin; refine wpList_append_own _ rfl _ _ 27 rfl w.heap.size 3 i0 _ 1 8 Tryz.underlying27 hi0 hz0 hz1 hz2 rfl (by omega) v k _ rfl hw1 ⟨wr.heap.size, 0, none⟩ 1 1 [.int .i64 x] rfl rfl HNW.out HO.out ?c3 ?c4 ?c5 ?_)
              case c3 => unfold maxLen; omega
              case c4 => omega
              case c5 => have := hx1.size; simp only [World.size_alloc] at this ⊢; omega
              intro v2 w2 hw2 hg2 _
              have hx2 : Nx w w2 := Below.grown hx1 hg2 hx1.size (fun k hk => (hw1.lt k hk).1)
              go_wp2
              go_roundw
              case rel =>
                refine ⟨k + 1, p + 6, v2, by omega, Lib.hid (by have := HP.out; omega), by go_num, rfl, ?_, hx2⟩
                rw [numsOf_succ, List.map_append, ← HXE.out]; exact hw2
              case measure => simp [intOf]; omega
        · have hd6 : decide ((p : Int) + 6 ≤ (s.size : Int)) = false := by simp; omega
          have hlen := numsOf_len s.data.toList k
          have hw' : wr.ownsRow w.heap.size 3 1 v (numsOf s.data.toList k).length ((numsOf s.data.toList k).map vI) := by rw [hlen]; exact hw
          obtain ⟨A, c, rfl, hrow, hcp⟩ := owns_row0 hw'
          have HCP := Lib.hid hcp
          clear hcp
          have HL := Lib.hid hlen
          clear hw hw' hlen
          by_cases h6 : s.size % 6 = 0
          · have hz : ((s.size : Int) % 6 == 0) = true := beq_iff_eq.2 (by omega)
            have hdiv : s.data.toList.length / 6 = k := by rw [← ba_size]; have := HP.out; omega
            have HO := Lib.hid (numsO_yes (l := s.data.toList) (by rw [← ba_size]; exact h6) HA.out)
            rw [hdiv] at HO
            clear hdiv h6
            go_wp2
            go_ret2
            rw [HO.out]
            exact ⟨_, _, _, rfl, (fun ns h => by injection h with h; subst h; exact ⟨rfl, hrow, HCP.out⟩), hnx⟩
          · have hz : ((s.size : Int) % 6 == 0) = false := beq_eq_false_iff_ne.2 (by omega)
            have HO := Lib.hid (numsO_no (l := s.data.toList) (.inl (by rw [← ba_size]; exact h6)))
            clear h6
            go_wp2
            go_ret2
            rw [HO.out]
            exact ⟨_, _, _, rfl, (fun ns h => by cases h), hnx⟩
end Go.Proofs.YtehahodomfbpjaaGreatDoor
/- Contracts of the program's unsealed and sealedNumbers, and of the model's l02Open: texts whose sum is right. Conditions: texts of at most 1048576 bytes; the package's errors are known. -/
namespace Go.Proofs.YtehahodomfbpjaaGreatDoor
set_option linter.unusedVariables false
set_option maxRecDepth 100000
open Go.RowKit

def bodyOf (t : ByteArray) : ByteArray := t.extract 0 (t.size - 3)
theorem bodyOf_size (t : ByteArray) : (bodyOf t).size ≤ t.size := by
  unfold bodyOf; rw [ba_size, Lib.extract_data, ba_size t, List.length_take, List.length_drop]; omega
def sealB (t : ByteArray) : Bool := (sealS (bodyOf t)).toList == t.toList
def opensB (t : ByteArray) : Bool := decide (3 ≤ t.size) && sealB t
/-- The numbers of a text with a sum, if it is one. -/
def rdN (t : ByteArray) : Option (List Nat) := if opensB t then numsO (bodyOf t).data.toList else none
theorem opensB_short {t : ByteArray} (h : t.size < 3) : opensB t = false := by unfold opensB; rw [decide_eq_false (by omega)]; rfl
theorem opensB_of {t : ByteArray} (h : 3 ≤ t.size) : opensB t = sealB t := by unfold opensB; rw [decide_eq_true h]; rfl
theorem rdN_no {t : ByteArray} (h : opensB t = false) : rdN t = none := by unfold rdN; rw [h]; rfl
theorem rdN_yes {t : ByteArray} (h : opensB t = true) : rdN t = numsO (bodyOf t).data.toList := by unfold rdN; rw [h]; rfl
theorem l02Seal_s (s : ByteArray) (w : World) (hs : s.size ≤ 1048576) : Calls Tryz.prog 168 #[.string s] w fun e w' => e = .returned (.string (sealS s)) ∧ Nx w w' := l02Seal_c s w hs

def RetO (w : World) (t : ByteArray) (e : Ending) (w' : World) : Prop :=
  ∃ x : ByteArray, e = .returned (.tuple #[.string x, .bool (opensB t)]) ∧ x.size ≤ t.size ∧ (opensB t = true → x = bodyOf t) ∧ Nx w w'
set_option maxHeartbeats 1000000 in
theorem l02Open_c (t : ByteArray) (w : World) (ht : t.size ≤ 1048576) : Calls Tryz.prog 127 #[.string t] w (RetO w t) := by
  by_cases h3 : t.size < 3
  · have hd : decide ((t.size : Int) < 3) = true := by simp; omega
    have HO := Lib.hid (opensB_short h3)
    go_enter Tryz.func127, Tryz.ntmps127
    go_wp2
    go_ret2
    unfold RetO
    rw [HO.out]
    exact ⟨⟨#[]⟩, rfl, Nat.zero_le _, (fun h => by cases h), Nx.refl _⟩
  · have hd : decide ((t.size : Int) < 3) = false := by simp; omega
    have HO := Lib.hid (opensB_of (t := t) (by omega))
    have hb1 : 0 ≤ (t.size : Int) - 3 := by omega
    have hb2 : (t.size : Int) - 3 ≤ (t.size : Int) := by omega
    have hb3 : ((t.size : Int) - 3).toNat = t.size - 3 := by omega
    go_enter Tryz.func127, Tryz.ntmps127
    go_wp2_with fail
    refine (l02Seal_s (bodyOf t) _ (Nat.le_trans (bodyOf_size t) ht)).mono ?_
    rintro e w1 ⟨rfl, hnx1⟩
    obtain ⟨b, Hb⟩ : ∃ b, Hid (sealB t = b) := ⟨_, rfl⟩
    have hb : ((sealS (bodyOf t)).toList == t.toList) = b := Hb.out
    go_wp2
    go_ret2
    refine ⟨bodyOf t, ?_, bodyOf_size t, fun _ => rfl, hnx1⟩
    rw [HO.out, Hb.out]
    rfl

/-- What is answered of a text that is too long. -/
def RetUn (w : World) (t : ByteArray) (a0 : Addr) (e : Ending) (w' : World) : Prop :=
  Nx w w' ∧ (opensB t = false → e = .returned (.tuple #[.string ⟨#[]⟩, .iface 304 (.pointer (some a0))])) ∧ (opensB t = true → e = .returned (.tuple #[.string (bodyOf t), .nilIface]))
set_option maxRecDepth 100000 in
set_option maxHeartbeats 1000000 in
theorem unsealed_c (t : ByteArray) (w : World) (a0 a1 : Addr) (ht : t.size ≤ 65536) (hE : Er w a0 a1) : Calls Tryz.prog 195 #[.string t] w (RetUn w t a0) := by
  have hd0 : decide (65536 < (t.size : Int)) = false := by simp; omega
  by_cases h3 : t.size < 3
  · have hd : decide ((t.size : Int) < 3) = true := by simp; omega
    have HO := Lib.hid (opensB_short h3)
    obtain ⟨c0, _⟩ := hE
    go_enter Tryz.func195, Tryz.ntmps195
    go_wp2
    go_quiet (fail)
    go_wp2
    go_ret2
    exact ⟨(Nx.refl _).drewN _, fun _ => rfl, fun h => by rw [HO.out] at h; cases h⟩
  · have hd : decide ((t.size : Int) < 3) = false := by simp; omega
    have HO := Lib.hid (opensB_of (t := t) (by omega))
    have hb1 : 0 ≤ (t.size : Int) - 3 := by omega
    have hb2 : (t.size : Int) - 3 ≤ (t.size : Int) := by omega
    have hb3 : ((t.size : Int) - 3).toNat = t.size - 3 := by omega
    cases hb : sealB t with
    | false =>
      have HB := Lib.hid hb
      clear hb
      go_enter Tryz.func195, Tryz.ntmps195
      go_wp2_with fail
      refine (sealed_c (bodyOf t) _ (Nat.le_trans (bodyOf_size t) ht)).mono ?_
      rintro e w1 ⟨rfl, hnx1⟩
      have hb : ((sealS (bodyOf t)).toList == t.toList) = false := HB.out
      have hb' : ((sealS (bodyOf t)).toList != t.toList) = true := by rw [bne, hb]; rfl
      obtain ⟨c0, _⟩ := hE.nx hnx1
      go_wp2
      go_quiet (fail)
      go_wp2
      go_ret2
      exact ⟨hnx1.drewN _, fun _ => rfl, fun h => by rw [HO.out, HB.out] at h; cases h⟩
    | true =>
      have HB := Lib.hid hb
      clear hb
      go_enter Tryz.func195, Tryz.ntmps195
      go_wp2_with fail
      refine (sealed_c (bodyOf t) _ (Nat.le_trans (bodyOf_size t) ht)).mono ?_
      rintro e w1 ⟨rfl, hnx1⟩
      have hb : ((sealS (bodyOf t)).toList == t.toList) = true := HB.out
      have hb' : ((sealS (bodyOf t)).toList != t.toList) = false := by rw [bne, hb]; rfl
      go_wp2
      go_ret2
      exact ⟨hnx1, (fun h => by rw [HO.out, HB.out] at h; cases h), fun _ => rfl⟩
set_option maxHeartbeats 1000000 in
theorem sealedNumbers_c (t : ByteArray) (w : World) (a0 a1 : Addr) (ht : t.size ≤ 65536) (hE : Er w a0 a1) : Calls Tryz.prog 218 #[.string t] w (RetNums w (rdN t) a0) := by
  cases ho : opensB t with
  | false =>
    have HO := Lib.hid ho
    have HR := Lib.hid (rdN_no ho)
    clear ho
    go_enter Tryz.func218, Tryz.ntmps218
    go_wp2_with fail
    refine (unsealed_c t _ a0 a1 ht hE).mono ?_
    rintro e w1 ⟨hnx1, h1, _⟩
    obtain rfl := h1 HO.out
    clear h1
    go_wp2
    go_ret2
    exact RetNums.no HR.out hnx1
  | true =>
    have HO := Lib.hid ho
    have HR := Lib.hid (rdN_yes ho)
    clear ho
    go_enter Tryz.func218, Tryz.ntmps218
    go_wp2_with fail
    refine (unsealed_c t _ a0 a1 ht hE).mono ?_
    rintro e w1 ⟨hnx1, _, h1⟩
    obtain rfl := h1 HO.out
    clear h1
    go_wp2_with fail
    refine (numbersOf_c (bodyOf t) _ a0 a1 (Nat.le_trans (bodyOf_size t) ht) (hE.nx hnx1)).mono ?_
    rintro e w2 ⟨hnx2, h1, h2⟩
    rw [← HR.out] at h1 h2
    cases hr : rdN t with
    | none =>
      obtain rfl := h1 hr
      have HRN := Lib.hid hr
      clear h1 h2 hr
      go_wp2
      go_ret2
      exact RetNums.no HRN.out (hnx1.trans hnx2)
    | some ns =>
      obtain ⟨A, c, rfl, hrow, hcp⟩ := h2 ns hr
      have HCP := Lib.hid hcp
      clear hcp
      have HRS := Lib.hid hr
      clear h1 h2 hr
      go_wp2
      go_ret2
      exact RetNums.yes HRS.out hrow HCP.out (hnx1.trans hnx2)
end Go.Proofs.YtehahodomfbpjaaGreatDoor
