/-
  The walk of the law FnDisk.
  Conditions: the arguments that come in can be read.
-/
import Derived.Test.YtccapcadgjlmkaaSmd
import Derived.Test.YtccapcadgjlmkaaRd
import Derived.Test.YtccapcadgjlmkaaWs
import Derived.Test.YtccapcadgjlmkaaFc
import Derived.Deep.RegionHeld3
namespace Go.Proofs.Ytccapcadgjlmkaa
set_option linter.unusedVariables false
open Go.RowKit

theorem readP_new {ss : List ByteArray} {ws : List (Int × ByteArray)} {k : Nat} {t : ByteArray} : readP ss (ws ++ [((k : Int), t)]) k = t := by
  unfold readP
  rw [List.length_append]
  show (findLast _ k (ws.length + 1)).getD _ = t
  rw [findLast, List.getD_eq_getElem?_getD, List.getElem?_append_right (Nat.le_refl _), Nat.sub_self]
  simp
theorem getD_new {ss : List ByteArray} {ws : List (Int × ByteArray)} {k : Nat} {t : ByteArray} (hk : k < ss.length) : (settleTo kpAll ss (ws ++ [((k : Int), t)]) (ws.length + 1)).getD k ByteArray.empty = t := by
  rw [settle_yes (a := k) (s := t) rfl (by rw [List.getD_eq_getElem?_getD, List.getElem?_append_right (Nat.le_refl _), Nat.sub_self]; rfl)]
  rw [List.getD_eq_getElem?_getD, List.getElem?_set, if_pos rfl, if_pos (by rw [settleTo_len]; exact hk)]; rfl
theorem settle_none (ss : List ByteArray) (ws : List (Int × ByteArray)) : ∀ n, settleTo (kpC []) ss ws n = ss
  | 0 => rfl
  | n + 1 => by rw [settle_no (kpC_zero rfl), settle_none ss ws n]
theorem settle_true (ss : List ByteArray) (ws : List (Int × ByteArray)) (n : Nat) : settleTo (kpC [true]) ss ws n = settleTo kpAll ss ws n := settle_congr (fun i => by simp [kpC, kpAll, Nat.mod_one]) _ _ _
theorem sameD_refl (ss : List ByteArray) : sameD ss ss [] [] = true := by
  unfold sameD
  rw [← sameL_yes (k := ss.length) rfl (fun i _ => by unfold eqS; simp) rfl, ← sameL_yes (k := 0) rfl (fun i hi => absurd hi (by omega)) rfl]; rfl

/-- A disk in a variable that can be read. -/
def DkR (w : World) (g : Nat) (A : Option Addr) (n c : Nat) (A2 : Option Addr) (n2 c2 : Nat) (ss : List ByteArray) (ws : List (Int × ByteArray)) : Prop :=
  Strs w w.heap.size A n ss ∧ Wrs w w.heap.size A2 n2 ws ∧ Box w g 26 #[.slice A n c, .slice A2 n2 c2]
section
variable {w w' : World} {lo g : Nat} {A : Option Addr} {n c : Nat} {A2 : Option Addr} {n2 c2 : Nat} {ss : List ByteArray} {ws : List (Int × ByteArray)}
theorem Dk.r (h : Dk w lo g A n c A2 n2 c2 ss ws) : DkR w g A n c A2 n2 c2 ss ws := ⟨h.strs, h.wrs, h.2.2⟩
theorem DkR.nx (h : DkR w g A n c A2 n2 c2 ss ws) (hb : Nx w w') : DkR w' g A n c A2 n2 c2 ss ws :=
  ⟨(h.1.below hb (Nat.le_refl _)).more hb.size, (h.2.1.below hb (Nat.le_refl _)).more hb.size, h.2.2.nx hb⟩
theorem DkR.c0 (h : DkR w g A n c A2 n2 c2 ss ws) : w.cell? ⟨g, 0, none⟩ = some (.slice A n c) := h.2.2.c0
theorem DkR.c1 (h : DkR w g A n c A2 n2 c2 ss ws) : w.cell? ⟨g, 1, none⟩ = some (.slice A2 n2 c2) := h.2.2.c1
theorem DkR.lt (h : DkR w g A n c A2 n2 c2 ss ws) : g < w.heap.size := h.2.2.lt
theorem DkR.put {B n' c' n2' c2' : Nat} {A' A2' : Option Addr} {v0 v1 : Value} (hb : Box w g 26 #[v0, v1]) (hS : SlS w lo A' n' ss) (hW : SlW w B A2' n2' ws) :
    DkR ((w.setCell ⟨g, 0, none⟩ (.slice A' n' c')).setCell ⟨g, 1, none⟩ (.slice A2' n2' c2')) g A' n' c' A2' n2' c2' ss ws :=
  ⟨((hS.put hb (i := 0) _).put (hb.set0 _) (i := 1) _).strs, ((hW.put hb (i := 0) _).put (hb.set0 _) (i := 1) _).wrs, (hb.set0 _).set1 _⟩
end

set_option maxRecDepth 100000 in
set_option maxHeartbeats 8000000 in
theorem lawFnDisk (A : Option Addr) (n c : Nat) (ys : List Nat) (A' : Option Addr) (n' c' : Nat) (zs : List Nat) (w : World) (h : U8s w w.heap.size A n ys) (hn : n ≤ 2 ^ 63 - 1) (h' : U8s w w.heap.size A' n' zs) (hn' : n' ≤ 2 ^ 63 - 1) :
    Calls Try.prog 3 #[.slice A n c, .slice A' n' c'] w fun e w' => e = .returned (.bool true) ∧ Nx w w' := by
  by_cases hb1 : n ≤ 1048576
  case neg =>
    have hd1 : decide (1048576 < (n : Int)) = true := by simp; omega
    go_enter Try.func3, Try.ntmps3
    go_wp2
    go_ret
    exact ⟨rfl, Nx.refl _⟩
  have hd1 : decide (1048576 < (n : Int)) = false := by simp; omega
  by_cases hb2 : n' ≤ 1048576
  case neg =>
    have hd2 : decide (1048576 < (n' : Int)) = true := by simp; omega
    go_enter Try.func3, Try.ntmps3
    go_wp2
    go_ret
    exact ⟨rfl, Nx.refl _⟩
  have hd2 : decide (1048576 < (n' : Int)) = false := by simp; omega
  go_enter Try.func3, Try.ntmps3
  go_wp2_with fail
  clear hd1 hd2
  refine (plainDiskOf_c A n c w.heap.size ys _ h (Nat.le_refl _) hb1).mono ?_
  rintro e w1 ⟨D1, p, d1, D2, q, d2, ss, ws, rfl, dS, dW, hok, hq8, hx1⟩
  obtain ⟨hl64, _, _, hall⟩ := diskB_len64 hok
  obtain rfl : 64 = p := hl64.symm.trans dS.1
  have D := Dk.new (c := d1) (c2 := d2) dS dW
  have hy2 := hx1.alloc (.cells #[.slice D1 64 d1, .slice D2 q d2] 26)
  clear dS dW hx1
  go_wp2_with fail
  generalize w1.alloc (.cells #[.slice D1 64 d1, .slice D2 q d2] 26) = w2 at *
  refine (at_c 0 64 A' n' c' w.heap.size zs _ (h'.below hy2 (Nat.le_refl _)) hy2.size hb2 (by omega) (by omega) (by omega)).mono ?_
  rintro e w3 ⟨k, rfl, hk, hx3⟩
  replace D := D.nx hx3
  have hy3 := hy2.trans hx3
  clear hy2 hx3
  go_wp2_with fail
  refine (at_c 1 9 A' n' c' w.heap.size zs _ (h'.below hy3 (Nat.le_refl _)) hy3.size hb2 (by omega) (by omega) (by omega)).mono ?_
  rintro e w4 ⟨m, rfl, hm, hx4⟩
  replace D := D.nx hx4
  have hy4 := hy3.trans hx4
  clear hy3 hx4
  go_wp2_with fail
  refine (textOf_c m A' n' c' w.heap.size zs _ (h'.below hy4 (Nat.le_refl _)) hy4.size hb2 (by omega)).mono ?_
  rintro e w5 ⟨t, rfl, ht, hx5⟩
  replace D := D.nx hx5
  have hy5 := hy4.trans hx5
  clear hy4 hx5
  -- what the functions answer
  have hql : ws.length = q := D.2.1.1
  have hsec : secB (k : Int) = true := by unfold secB; simp; omega
  have HW := Lib.hid (wrP_ok (a := (k : Int)) (t := t) (by omega) hok hsec (by omega) (by omega))
  have hok2 := diskB_write (a := (k : Int)) (t := t) hok (by omega) hsec (by omega)
  have HR := Lib.hid ((rdP_ok (a := k) hok2 hsec).trans (by rw [readP_new]))
  have hokS := diskB_settle (kp := kpAll) (k := ws.length + 1) hok2 (by simp)
  have HFl := Lib.hid (show flP ss (ws ++ [((k : Int), t)]) = ((settleTo kpAll ss (ws ++ [((k : Int), t)]) (ws.length + 1), []), 0) by rw [flP_ok hok2]; simp)
  have HR2 := Lib.hid (show rdP (settleTo kpAll ss (ws ++ [((k : Int), t)]) (ws.length + 1)) [] k = (t, 0) by rw [rdP_ok hokS hsec]; unfold readP; show (((settleTo kpAll ss (ws ++ [((k : Int), t)]) (ws.length + 1)).getD k ByteArray.empty), (0 : Int)) = _; rw [getD_new (by omega)])
  have HZ := fun bs (hb : bs.length < 4) => show crP (settleTo kpAll ss (ws ++ [((k : Int), t)]) (ws.length + 1)) [] bs = ((settleTo kpAll ss (ws ++ [((k : Int), t)]) (ws.length + 1), []), 0) by rw [crP_ok (by omega) hokS]; rfl
  have HC := fun bs (hb : bs.length < 4) => show crP ss (ws ++ [((k : Int), t)]) bs = ((settleTo (kpC bs) ss (ws ++ [((k : Int), t)]) (ws.length + 1), []), 0) by rw [crP_ok (by omega) hok2]; simp
  have H0 := Lib.hid ((HC [] (by simp)).trans (by rw [settle_none]))
  have H1 := Lib.hid ((HC [true] (by simp)).trans (by rw [settle_true]))
  have H2 := Lib.hid (HC (keepsOf ys) (keepsOf_len ys))
  have HZ' := Lib.hid (HZ (keepsOf zs) (keepsOf_len zs))
  have hokM := Lib.hid (diskB_settle (kp := kpC (keepsOf ys)) (k := ws.length + 1) hok2 (by simp))
  have hSl : (settleTo kpAll ss (ws ++ [((k : Int), t)]) (ws.length + 1)).length = 64 := (settleTo_len _ _ _ _).trans hl64
  have hMl : (settleTo (kpC (keepsOf ys)) ss (ws ++ [((k : Int), t)]) (ws.length + 1)).length = 64 := (settleTo_len _ _ _ _).trans hl64
  have hVl : (ws ++ [((k : Int), t)]).length = q + 1 := by simp [hql]
  clear HC HZ hok hok2 hokS hsec hall
  generalize settleTo kpAll ss (ws ++ [((k : Int), t)]) (ws.length + 1) = S at *
  generalize settleTo (kpC (keepsOf ys)) ss (ws ++ [((k : Int), t)]) (ws.length + 1) = M at *
  have c0 := D.c0
  have c1 := D.c1
  go_wp2_with fail
  refine (implWriteSector_r D1 D2 64 d1 q d2 _ ss ws k t _ ss (ws ++ [((k : Int), t)]) 0 HW.out D.strs D.wrs (Nat.le_refl _) (by omega) (by omega) (by omega)).mono ?_
  rintro e w6 ⟨X1, x3, x1, X2, x4, x2, rfl, xS, xW, hx6⟩
  obtain rfl : 64 = x3 := hl64.symm.trans xS.1
  obtain rfl : q + 1 = x4 := hVl.symm.trans xW.1
  generalize ws ++ [((k : Int), t)] = V at *
  have X := Dk.new (c := x1) (c2 := x2) xS xW
  have hx7 := hx6.alloc (.cells #[.slice X1 64 x1, .slice X2 (q + 1) x2] 26)
  replace D := D.nx hx7
  have hy7 := hy5.trans hx7
  clear c0 c1 xS xW hx6 hx7 hy5 HW
  have c0 := X.c0
  have c1 := X.c1
  go_wp2_with fail
  generalize w6.alloc (.cells #[.slice X1 64 x1, .slice X2 (q + 1) x2] 26) = w7 at *
  have RD := implReadSector_c X1 X2 64 x1 (q + 1) x2 _ (k : Int) ss V w7 X.strs X.wrs (Nat.le_refl _) (by omega) (by omega)
  rw [HR.out] at RD
  refine RD.mono ?_
  rintro e w8 ⟨rfl, hx8⟩
  replace D := D.nx hx8
  replace X := X.nx hx8
  have hy8 := hy7.trans hx8
  clear c0 c1 RD hx8 hy7 HR
  have c0 := X.c0
  have c1 := X.c1
  go_wp2_with fail
  refine (implFlushDisk_r X1 X2 64 x1 (q + 1) x2 _ ss V _ S [] 0 HFl.out X.strs X.wrs (Nat.le_refl _) (by omega) (by omega)).mono ?_
  rintro e w9 ⟨Y1, y3, y1, Y2, y4, y2, rfl, yS, yW, hx9⟩
  obtain rfl : 64 = y3 := hSl.symm.trans yS.1
  obtain rfl : 0 = y4 := yW.1
  have Y := Dk.new (c := y1) (c2 := y2) yS yW
  have hx10 := hx9.alloc (.cells #[.slice Y1 64 y1, .slice Y2 0 y2] 26)
  replace D := D.nx hx10
  replace X := X.nx hx10
  have hy10 := hy8.trans hx10
  clear c0 c1 yS yW hx9 hx10 hy8 HFl
  go_wp2_with fail
  generalize w9.alloc (.cells #[.slice Y1 64 y1, .slice Y2 0 y2] 26) = w10 at *
  replace D := D.r
  replace X := X.r
  replace Y := Y.r
  rename_i K9 hK9
  have key9 : ∀ (gz : Nat) (Z1 : Option Addr) (z1 : Nat) (Z2 : Option Addr) (z2 : Nat) (K1 : Option Addr) (kn kc : Nat) (v : World), Nx w10 v → DkR v gz Z1 64 z1 Z2 0 z2 S [] →
      K9 { tmps := #[Value.slice A n c, Value.slice A' n' c', undef, undef, Value.bool false, Value.pointer (some { block := w1.heap.size, off := 0 }), Value.int IntKind.i64 (k : Int), Value.string t, Value.pointer (some { block := w6.heap.size, off := 0 }), Value.int IntKind.i64 0, Value.string t, Value.int IntKind.i64 0, Value.pointer (some { block := w9.heap.size, off := 0 }), Value.int IntKind.i64 0, Value.pointer (some { block := gz, off := 0 }), Value.int IntKind.i64 0, undef, undef, undef, undef, undef, undef, undef, undef, undef, undef, Value.slice A n c, Value.int IntKind.i64 (n : Int), Value.bool false, Value.bool false, Value.slice A' n' c', Value.int IntKind.i64 (n' : Int), Value.bool false, Value.bool false, Value.slice A n c, Value.agg #[Value.slice D1 64 d1, Value.slice D2 q d2], Value.slice A' n' c', Value.int IntKind.i64 (k : Int), Value.slice A' n' c', Value.slice A' n' c', Value.int IntKind.i64 (m : Int), Value.string t, Value.tuple #[Value.agg #[Value.slice X1 64 x1, Value.slice X2 (q + 1) x2], Value.int IntKind.i64 0], Value.agg #[Value.slice D1 64 d1, Value.slice D2 q d2], Value.int IntKind.i64 (k : Int), Value.string t, Value.tuple #[Value.agg #[Value.slice X1 64 x1, Value.slice X2 (q + 1) x2], Value.int IntKind.i64 0], Value.agg #[Value.slice X1 64 x1, Value.slice X2 (q + 1) x2], Value.int IntKind.i64 0, Value.tuple #[Value.string t, Value.int IntKind.i64 0], Value.agg #[Value.slice X1 64 x1, Value.slice X2 (q + 1) x2], Value.int IntKind.i64 (k : Int), Value.tuple #[Value.string t, Value.int IntKind.i64 0], Value.string t, Value.int IntKind.i64 0, Value.tuple #[Value.agg #[Value.slice Y1 64 y1, Value.slice Y2 0 y2], Value.int IntKind.i64 0], Value.agg #[Value.slice X1 64 x1, Value.slice X2 (q + 1) x2], Value.tuple #[Value.agg #[Value.slice Y1 64 y1, Value.slice Y2 0 y2], Value.int IntKind.i64 0], Value.agg #[Value.slice Y1 64 y1, Value.slice Y2 0 y2], Value.int IntKind.i64 0, Value.tuple #[Value.agg #[Value.slice Z1 64 z1, Value.slice Z2 0 z2], Value.int IntKind.i64 0], Value.agg #[Value.slice Y1 64 y1, Value.slice Y2 0 y2], Value.slice A' n' c', Value.slice K1 kn kc, Value.tuple #[Value.agg #[Value.slice Z1 64 z1, Value.slice Z2 0 z2], Value.int IntKind.i64 0], Value.agg #[Value.slice Z1 64 z1, Value.slice Z2 0 z2], Value.int IntKind.i64 0, undef, undef, undef, undef, undef, undef, undef, undef, undef, undef, undef, undef, undef, undef, undef, undef, undef, undef, undef, undef, undef, undef, undef, undef, undef, undef, undef, undef, undef, undef, undef, undef, undef, undef, undef, undef, undef, undef, undef, undef, undef, undef, undef, undef, undef, undef, undef, undef, undef, undef, undef, undef, undef, undef, undef, undef, undef, undef, undef, undef, undef, undef, undef, undef, undef, undef, undef, undef, undef, undef, undef, undef, undef, undef, undef, undef, undef, undef, undef, undef, undef, undef, undef, undef, undef, undef, undef, undef, undef, undef, undef, undef, undef, undef, undef, undef, undef, undef, undef, undef, undef, undef, undef, undef], defers := [] } v := by
    intro ga Za1 za1 Za2 za2 Ka kna kca v9 hxv Z
    replace D := D.nx hxv
    replace X := X.nx hxv
    replace Y := Y.nx hxv
    have hy11 := hy10.trans hxv
    clear hxv hy10
    have c0 := Z.c0
    have c1 := Z.c1
    refine hK9 _ _ ?_
    go_wp2_with fail
    have RD := implReadSector_c Za1 Za2 64 za1 0 za2 _ (k : Int) S [] v9 Z.1 Z.2.1 (Nat.le_refl _) (by omega) (by omega)
    rw [HR2.out] at RD
    refine RD.mono ?_
    rintro e w12 ⟨rfl, hx12⟩
    replace D := D.nx hx12
    replace X := X.nx hx12
    replace Y := Y.nx hx12
    have hy12 := hy11.trans hx12
    clear c0 c1 RD hx12 hy11 HR2 Z
    have c0 := X.c0
    have c1 := X.c1
    go_wp2_with fail
    have an := (Nx.refl w12).alloc (.cells #[] 4)
    have Xa := X.nx an
    refine (implCrashDisk_r X1 X2 64 x1 (q + 1) x2 _ ss V (some ⟨w12.heap.size, 0, none⟩) 0 0 [] _ ss [] 0 H0.out Xa.1 Xa.2.1 (Nat.le_refl _) (by omega) (by omega) ⟨rfl, fun h => absurd h (by omega)⟩ (by omega)).mono ?_
    rintro e w13 ⟨N1, o3, o1, N2, o4, o2, rfl, oS, oW, hx13⟩
    obtain rfl : 64 = o3 := hl64.symm.trans oS.1
    obtain rfl : 0 = o4 := oW.1
    have N := (Dk.new (c := o1) (c2 := o2) oS oW).r
    have hx14 := (an.trans hx13).alloc (.cells #[.slice N1 64 o1, .slice N2 0 o2] 26)
    replace D := D.nx hx14
    replace X := X.nx hx14
    replace Y := Y.nx hx14
    have hy14 := hy12.trans hx14
    clear c0 c1 an Xa oS oW hx13 hx14 hy12 H0
    have c0 := X.c0
    have c1 := X.c1
    go_wp2_with fail
    have an := (Nx.refl (w13.alloc (.cells #[.slice N1 64 o1, .slice N2 0 o2] 26))).alloc (.cells #[.bool true] 4)
    have Xa := X.nx an
    have bt := Box.new (w13.alloc (.cells #[.slice N1 64 o1, .slice N2 0 o2] 26)) 4 #[.bool true]
    simp only [World.size_alloc] at bt
    refine (implCrashDisk_r X1 X2 64 x1 (q + 1) x2 _ ss V (some ⟨w13.heap.size + 1, 0, none⟩) 1 1 [true] _ S [] 0 H1.out Xa.1 Xa.2.1 (Nat.le_refl _) (by omega) (by omega) (box_bls bt) (by omega)).mono ?_
    rintro e w15 ⟨L1, l3, l1, L2, l4, l2, rfl, lS, lW, hx15⟩
    obtain rfl : 64 = l3 := hSl.symm.trans lS.1
    obtain rfl : 0 = l4 := lW.1
    have L := (Dk.new (c := l1) (c2 := l2) lS lW).r
    have hx16 := (an.trans hx15).alloc (.cells #[.slice L1 64 l1, .slice L2 0 l2] 26)
    replace D := D.nx hx16
    replace X := X.nx hx16
    replace Y := Y.nx hx16
    replace N := N.nx hx16
    have hy16 := hy14.trans hx16
    clear c0 c1 an Xa bt lS lW hx15 hx16 hy14 H1
    go_wp2_with fail
    generalize w15.alloc (.cells #[.slice L1 64 l1, .slice L2 0 l2] 26) = w16 at *
    rename_i K13 hK13
    have key13 : ∀ (gz : Nat) (Z1 : Option Addr) (z1 : Nat) (Z2 : Option Addr) (z2 : Nat) (K1 : Option Addr) (kn kc : Nat) (v : World), Nx w16 v → DkR v gz Z1 64 z1 Z2 0 z2 M [] →
        K13 { tmps := #[Value.slice A n c, Value.slice A' n' c', undef, undef, Value.bool false, Value.pointer (some { block := w1.heap.size, off := 0 }), Value.int IntKind.i64 (k : Int), Value.string t, Value.pointer (some { block := w6.heap.size, off := 0 }), Value.int IntKind.i64 0, Value.string t, Value.int IntKind.i64 0, Value.pointer (some { block := w9.heap.size, off := 0 }), Value.int IntKind.i64 0, Value.pointer (some { block := ga, off := 0 }), Value.int IntKind.i64 0, Value.string t, Value.int IntKind.i64 0, Value.pointer (some { block := w13.heap.size, off := 0 }), Value.int IntKind.i64 0, Value.pointer (some { block := w15.heap.size, off := 0 }), Value.int IntKind.i64 0, Value.pointer (some { block := gz, off := 0 }), Value.int IntKind.i64 0, undef, undef, Value.slice A n c, Value.int IntKind.i64 (n : Int), Value.bool false, Value.bool false, Value.slice A' n' c', Value.int IntKind.i64 (n' : Int), Value.bool false, Value.bool false, Value.slice A n c, Value.agg #[Value.slice D1 64 d1, Value.slice D2 q d2], Value.slice A' n' c', Value.int IntKind.i64 (k : Int), Value.slice A' n' c', Value.slice A' n' c', Value.int IntKind.i64 (m : Int), Value.string t, Value.tuple #[Value.agg #[Value.slice X1 64 x1, Value.slice X2 (q + 1) x2], Value.int IntKind.i64 0], Value.agg #[Value.slice D1 64 d1, Value.slice D2 q d2], Value.int IntKind.i64 (k : Int), Value.string t, Value.tuple #[Value.agg #[Value.slice X1 64 x1, Value.slice X2 (q + 1) x2], Value.int IntKind.i64 0], Value.agg #[Value.slice X1 64 x1, Value.slice X2 (q + 1) x2], Value.int IntKind.i64 0, Value.tuple #[Value.string t, Value.int IntKind.i64 0], Value.agg #[Value.slice X1 64 x1, Value.slice X2 (q + 1) x2], Value.int IntKind.i64 (k : Int), Value.tuple #[Value.string t, Value.int IntKind.i64 0], Value.string t, Value.int IntKind.i64 0, Value.tuple #[Value.agg #[Value.slice Y1 64 y1, Value.slice Y2 0 y2], Value.int IntKind.i64 0], Value.agg #[Value.slice X1 64 x1, Value.slice X2 (q + 1) x2], Value.tuple #[Value.agg #[Value.slice Y1 64 y1, Value.slice Y2 0 y2], Value.int IntKind.i64 0], Value.agg #[Value.slice Y1 64 y1, Value.slice Y2 0 y2], Value.int IntKind.i64 0, Value.tuple #[Value.agg #[Value.slice Za1 64 za1, Value.slice Za2 0 za2], Value.int IntKind.i64 0], Value.agg #[Value.slice Y1 64 y1, Value.slice Y2 0 y2], Value.slice A' n' c', Value.slice Ka kna kca, Value.tuple #[Value.agg #[Value.slice Za1 64 za1, Value.slice Za2 0 za2], Value.int IntKind.i64 0], Value.agg #[Value.slice Za1 64 za1, Value.slice Za2 0 za2], Value.int IntKind.i64 0, Value.tuple #[Value.string t, Value.int IntKind.i64 0], Value.agg #[Value.slice Za1 64 za1, Value.slice Za2 0 za2], Value.int IntKind.i64 (k : Int), Value.tuple #[Value.string t, Value.int IntKind.i64 0], Value.string t, Value.int IntKind.i64 0, Value.tuple #[Value.agg #[Value.slice N1 64 o1, Value.slice N2 0 o2], Value.int IntKind.i64 0], Value.agg #[Value.slice X1 64 x1, Value.slice X2 (q + 1) x2], Value.slice (some { block := w12.heap.size, off := 0 }) 0 0, Value.tuple #[Value.agg #[Value.slice N1 64 o1, Value.slice N2 0 o2], Value.int IntKind.i64 0], Value.agg #[Value.slice N1 64 o1, Value.slice N2 0 o2], Value.int IntKind.i64 0, Value.tuple #[Value.agg #[Value.slice L1 64 l1, Value.slice L2 0 l2], Value.int IntKind.i64 0], Value.agg #[Value.slice X1 64 x1, Value.slice X2 (q + 1) x2], Value.slice (some { block := w13.heap.size + 1, off := 0 }) 1 1, Value.tuple #[Value.agg #[Value.slice L1 64 l1, Value.slice L2 0 l2], Value.int IntKind.i64 0], Value.agg #[Value.slice L1 64 l1, Value.slice L2 0 l2], Value.int IntKind.i64 0, Value.tuple #[Value.agg #[Value.slice Z1 64 z1, Value.slice Z2 0 z2], Value.int IntKind.i64 0], Value.agg #[Value.slice X1 64 x1, Value.slice X2 (q + 1) x2], Value.slice A n c, Value.slice K1 kn kc, Value.tuple #[Value.agg #[Value.slice Z1 64 z1, Value.slice Z2 0 z2], Value.int IntKind.i64 0], Value.agg #[Value.slice Z1 64 z1, Value.slice Z2 0 z2], Value.int IntKind.i64 0, undef, undef, undef, undef, undef, undef, undef, undef, undef, undef, undef, undef, undef, undef, undef, undef, undef, undef, undef, undef, undef, undef, undef, undef, undef, undef, undef, undef, undef, undef, undef, undef, undef, undef, undef, undef, undef, undef, undef, undef, undef, undef, undef, undef, undef, undef, undef, undef, undef, undef, undef, undef, undef, undef, undef, undef, undef, undef, undef, undef, undef, undef, undef, undef, undef, undef, undef, undef, undef, undef, undef, undef, undef, undef, undef, undef, undef, undef, undef], defers := [] } v := by
      intro gm M1 m1 M2 m2 K2 kn2 kc2 v13 hxv Mm
      replace D := D.nx hxv
      replace X := X.nx hxv
      replace Y := Y.nx hxv
      replace N := N.nx hxv
      replace L := L.nx hxv
      have hy17 := hy16.trans hxv
      clear hxv hy16
      refine hK13 _ _ ?_
      go_wp2_with fail
      rename_i K14 hK14
      have key14 : ∀ (gz : Nat) (Z1 : Option Addr) (z1 : Nat) (Z2 : Option Addr) (z2 : Nat) (K1 : Option Addr) (kn kc : Nat) (v : World), Nx v13 v → DkR v gz Z1 64 z1 Z2 0 z2 M [] →
          K14 { tmps := #[Value.slice A n c, Value.slice A' n' c', undef, undef, Value.bool false, Value.pointer (some { block := w1.heap.size, off := 0 }), Value.int IntKind.i64 (k : Int), Value.string t, Value.pointer (some { block := w6.heap.size, off := 0 }), Value.int IntKind.i64 0, Value.string t, Value.int IntKind.i64 0, Value.pointer (some { block := w9.heap.size, off := 0 }), Value.int IntKind.i64 0, Value.pointer (some { block := ga, off := 0 }), Value.int IntKind.i64 0, Value.string t, Value.int IntKind.i64 0, Value.pointer (some { block := w13.heap.size, off := 0 }), Value.int IntKind.i64 0, Value.pointer (some { block := w15.heap.size, off := 0 }), Value.int IntKind.i64 0, Value.pointer (some { block := gm, off := 0 }), Value.int IntKind.i64 0, Value.pointer (some { block := gz, off := 0 }), Value.int IntKind.i64 0, Value.slice A n c, Value.int IntKind.i64 (n : Int), Value.bool false, Value.bool false, Value.slice A' n' c', Value.int IntKind.i64 (n' : Int), Value.bool false, Value.bool false, Value.slice A n c, Value.agg #[Value.slice D1 64 d1, Value.slice D2 q d2], Value.slice A' n' c', Value.int IntKind.i64 (k : Int), Value.slice A' n' c', Value.slice A' n' c', Value.int IntKind.i64 (m : Int), Value.string t, Value.tuple #[Value.agg #[Value.slice X1 64 x1, Value.slice X2 (q + 1) x2], Value.int IntKind.i64 0], Value.agg #[Value.slice D1 64 d1, Value.slice D2 q d2], Value.int IntKind.i64 (k : Int), Value.string t, Value.tuple #[Value.agg #[Value.slice X1 64 x1, Value.slice X2 (q + 1) x2], Value.int IntKind.i64 0], Value.agg #[Value.slice X1 64 x1, Value.slice X2 (q + 1) x2], Value.int IntKind.i64 0, Value.tuple #[Value.string t, Value.int IntKind.i64 0], Value.agg #[Value.slice X1 64 x1, Value.slice X2 (q + 1) x2], Value.int IntKind.i64 (k : Int), Value.tuple #[Value.string t, Value.int IntKind.i64 0], Value.string t, Value.int IntKind.i64 0, Value.tuple #[Value.agg #[Value.slice Y1 64 y1, Value.slice Y2 0 y2], Value.int IntKind.i64 0], Value.agg #[Value.slice X1 64 x1, Value.slice X2 (q + 1) x2], Value.tuple #[Value.agg #[Value.slice Y1 64 y1, Value.slice Y2 0 y2], Value.int IntKind.i64 0], Value.agg #[Value.slice Y1 64 y1, Value.slice Y2 0 y2], Value.int IntKind.i64 0, Value.tuple #[Value.agg #[Value.slice Za1 64 za1, Value.slice Za2 0 za2], Value.int IntKind.i64 0], Value.agg #[Value.slice Y1 64 y1, Value.slice Y2 0 y2], Value.slice A' n' c', Value.slice Ka kna kca, Value.tuple #[Value.agg #[Value.slice Za1 64 za1, Value.slice Za2 0 za2], Value.int IntKind.i64 0], Value.agg #[Value.slice Za1 64 za1, Value.slice Za2 0 za2], Value.int IntKind.i64 0, Value.tuple #[Value.string t, Value.int IntKind.i64 0], Value.agg #[Value.slice Za1 64 za1, Value.slice Za2 0 za2], Value.int IntKind.i64 (k : Int), Value.tuple #[Value.string t, Value.int IntKind.i64 0], Value.string t, Value.int IntKind.i64 0, Value.tuple #[Value.agg #[Value.slice N1 64 o1, Value.slice N2 0 o2], Value.int IntKind.i64 0], Value.agg #[Value.slice X1 64 x1, Value.slice X2 (q + 1) x2], Value.slice (some { block := w12.heap.size, off := 0 }) 0 0, Value.tuple #[Value.agg #[Value.slice N1 64 o1, Value.slice N2 0 o2], Value.int IntKind.i64 0], Value.agg #[Value.slice N1 64 o1, Value.slice N2 0 o2], Value.int IntKind.i64 0, Value.tuple #[Value.agg #[Value.slice L1 64 l1, Value.slice L2 0 l2], Value.int IntKind.i64 0], Value.agg #[Value.slice X1 64 x1, Value.slice X2 (q + 1) x2], Value.slice (some { block := w13.heap.size + 1, off := 0 }) 1 1, Value.tuple #[Value.agg #[Value.slice L1 64 l1, Value.slice L2 0 l2], Value.int IntKind.i64 0], Value.agg #[Value.slice L1 64 l1, Value.slice L2 0 l2], Value.int IntKind.i64 0, Value.tuple #[Value.agg #[Value.slice M1 64 m1, Value.slice M2 0 m2], Value.int IntKind.i64 0], Value.agg #[Value.slice X1 64 x1, Value.slice X2 (q + 1) x2], Value.slice A n c, Value.slice K2 kn2 kc2, Value.tuple #[Value.agg #[Value.slice M1 64 m1, Value.slice M2 0 m2], Value.int IntKind.i64 0], Value.agg #[Value.slice M1 64 m1, Value.slice M2 0 m2], Value.int IntKind.i64 0, Value.tuple #[Value.agg #[Value.slice Z1 64 z1, Value.slice Z2 0 z2], Value.int IntKind.i64 0], Value.agg #[Value.slice X1 64 x1, Value.slice X2 (q + 1) x2], Value.slice A n c, Value.slice K1 kn kc, Value.tuple #[Value.agg #[Value.slice Z1 64 z1, Value.slice Z2 0 z2], Value.int IntKind.i64 0], Value.agg #[Value.slice Z1 64 z1, Value.slice Z2 0 z2], Value.int IntKind.i64 0, undef, undef, undef, undef, undef, undef, undef, undef, undef, undef, undef, undef, undef, undef, undef, undef, undef, undef, undef, undef, undef, undef, undef, undef, undef, undef, undef, undef, undef, undef, undef, undef, undef, undef, undef, undef, undef, undef, undef, undef, undef, undef, undef, undef, undef, undef, undef, undef, undef, undef, undef, undef, undef, undef, undef, undef, undef, undef, undef, undef, undef, undef, undef, undef, undef, undef, undef, undef, undef, undef, undef, undef], defers := [] } v := by
        intro gw U1 u1 U2 u2 K3 kn3 kc3 v14 hxv U
        replace D := D.nx hxv
        replace Y := Y.nx hxv
        replace N := N.nx hxv
        replace L := L.nx hxv
        replace Mm := Mm.nx hxv
        have hy18 := hy17.trans hxv
        clear hxv hy17 X H2
        refine hK14 _ _ ?_
        have d0 := D.c0
        have y0 := Y.c0
        have y1_ := Y.c1
        have n0 := N.c0
        go_wp2_with fail
        refine (sameTexts_c N1 D1 64 o1 d1 _ ss _ N.1 D.1 (Nat.le_refl _) (by omega)).mono ?_
        rintro e v15 ⟨rfl, hxa⟩
        replace Y := Y.nx hxa
        replace L := L.nx hxa
        replace Mm := Mm.nx hxa
        replace U := U.nx hxa
        have hy19 := hy18.trans hxa
        clear d0 y0 y1_ n0 hxa hy18 D N
        have l0 := L.c0
        have l1_ := L.c1
        have y0 := Y.c0
        have y1_ := Y.c1
        go_wp2_with fail
        refine (sameDisk_c L1 L2 Y1 Y2 64 l1 y1 l2 y2 _ S _ L.1 Y.1 (Nat.le_refl _) (by omega)).mono ?_
        rintro e v16 ⟨rfl, hxa⟩
        replace Y := Y.nx hxa
        replace L := L.nx hxa
        replace Mm := Mm.nx hxa
        replace U := U.nx hxa
        have hy20 := hy19.trans hxa
        clear l0 l1_ y0 y1_ hxa hy19
        have m0 := Mm.c0
        have m1_ := Mm.c1
        have u0 := U.c0
        have u1_ := U.c1
        go_wp2_with fail
        refine (sameDisk_c M1 M2 U1 U2 64 m1 u1 m2 u2 _ M _ Mm.1 U.1 (Nat.le_refl _) (by omega)).mono ?_
        rintro e v17 ⟨rfl, hxa⟩
        replace Y := Y.nx hxa
        replace L := L.nx hxa
        replace Mm := Mm.nx hxa
        have hy21 := hy20.trans hxa
        clear m0 m1_ u0 u1_ hxa hy20 U
        have m0 := Mm.c0
        have m1_ := Mm.c1
        go_wp2_with fail
        have DKO := implDiskOK_c M1 M2 64 m1 0 m2 _ M [] v17 Mm.1 Mm.2.1 (Nat.le_refl _) (by omega) (by omega)
        rw [hokM.out] at DKO
        refine DKO.mono ?_
        rintro e v18 ⟨rfl, hxa⟩
        replace Y := Y.nx hxa
        replace L := L.nx hxa
        have hy22 := hy21.trans hxa
        clear m0 m1_ hxa hy21 Mm DKO
        have l0 := L.c0
        have l1_ := L.c1
        have y0 := Y.c0
        have y1_ := Y.c1
        go_wp2_with fail
        have SD := implSameDisk_c L1 L2 Y1 Y2 64 l1 0 l2 64 y1 0 y2 _ S S [] [] v18 L.1 L.2.1 Y.1 Y.2.1 (Nat.le_refl _) (by omega) (by omega) (by omega) (by omega)
        rw [sameD_refl] at SD
        refine SD.mono ?_
        rintro e v19 ⟨rfl, hxa⟩
        clear l0 l1_ y0 y1_
        go_wp2
        go_ret
        exact ⟨rfl, hy22.trans hxa⟩
      have j0 : Nx v13 v13.drew := (Nx.refl v13).drew
      have j1 : Nx v13 (v13.drew.alloc (.cells #[.slice none 0 0, .slice none 0 0] 26)) := j0.alloc _
      have hk0 := h.below (hy17.trans j0) (Nat.le_refl _)
      have hk1 := h.below (hy17.trans j1) (Nat.le_refl _)
      have hs0 := (hy17.trans j0).size
      have hs1 := (hy17.trans j1).size
      have yb0 : Box v13.drew w6.heap.size 26 #[.slice X1 64 x1, .slice X2 (q + 1) x2] := X.2.2
      have zb1 : Box (v13.drew.alloc (.cells #[.slice none 0 0, .slice none 0 0] 26)) v13.heap.size 26 #[.slice none 0 0, .slice none 0 0] := Box.new v13.drew 26 #[.slice none 0 0, .slice none 0 0]
      have ylt := X.lt
      have hkl := keepsOf_len ys
      have c0 := yb0.c0
      have c1_ := yb0.c1
      go_wp2_with fail
      go_region_held3 (fun w' => w'.cell? ⟨w6.heap.size, 0, none⟩ = some (.slice X1 64 x1) ∧ w'.cell? ⟨w6.heap.size, 1, none⟩ = some (.slice X2 (q + 1) x2))
        (first | exact ⟨c0, c1_⟩ | exact ⟨(yb0.alloc _).c0, (yb0.alloc _).c1⟩ | exact ⟨yv.c0, yv.c1⟩ | exact ⟨(yv.alloc _).c0, (yv.alloc _).c1⟩ | exact ⟨yu.c0, yu.c1⟩ | exact ⟨(yu.alloc _).c0, (yu.alloc _).c1⟩ | exact ⟨((yu.far hne0 _).far hne1 _).c0, ((yu.far hne0 _).far hne1 _).c1⟩ | exact ⟨(((yu.alloc _).far hne0 _).far hne1 _).c0, (((yu.alloc _).far hne0 _).far hne1 _).c1⟩)
        (first
          | (go_at_call 15; refine (keepsOf_c A n c w.heap.size ys _ (by first | exact hk0 | exact hk1) (by first | exact hs0 | exact hs1) hb1).mono ?_; rintro e v1 ⟨K1, kn, kc, rfl, kB, kx⟩
             have kx' : Nx v13 v1 := by first | exact j0.trans kx | exact j1.trans kx
             have Yv := X.nx kx'
             have yv := Yv.2.2
             have va := (Nx.refl v1).alloc (.cells #[.slice none 0 0, .slice none 0 0] 26)
             have hkn : kn < 4 := by have := kB.1; omega
             first | (have zv := zb1.nx kx) | skip)
          | (go_at_call 16; refine (specCrashDisk_r X1 X2 64 x1 (q + 1) x2 _ ss V K1 kn kc (keepsOf ys) _ M [] 0 H2.out (by first | exact Yv.1 | exact (Yv.nx va).1) (by first | exact Yv.2.1 | exact (Yv.nx va).2.1) (Nat.le_refl _) (by omega) (by omega) (by first | exact kB.bls | exact (kB.nx va).bls) (by omega)).mono ?_; rintro e v2 ⟨Z1, z3, z1, Z2, z4, z2, rfl, zS, zW, zx⟩
             obtain rfl : 64 = z3 := hMl.symm.trans zS.1
             obtain rfl : 0 = z4 := zW.1
             have zx' : Nx v1 v2 := by first | exact zx | exact va.trans zx
             have yu := yv.nx zx'
             have kxs := kx'.size
             have zxs := zx'.size
             first
               | (have zu := zv.nx zx'
                  have hne0 : w6.heap.size ≠ (⟨v13.heap.size, 0, none⟩ : Addr).block := by show w6.heap.size ≠ v13.heap.size; omega
                  have hne1 : w6.heap.size ≠ (⟨v13.heap.size, 1, none⟩ : Addr).block := by show w6.heap.size ≠ v13.heap.size; omega)
               | (have zu := (Box.new v1 26 #[.slice none 0 0, .slice none 0 0]).nx zx
                  have hne0 : w6.heap.size ≠ (⟨v1.heap.size, 0, none⟩ : Addr).block := by show w6.heap.size ≠ v1.heap.size; omega
                  have hne1 : w6.heap.size ≠ (⟨v1.heap.size, 1, none⟩ : Addr).block := by show w6.heap.size ≠ v1.heap.size; omega)
               | (have zu := Box.new v2 26 #[.slice none 0 0, .slice none 0 0]
                  have hne0 : w6.heap.size ≠ (⟨v2.heap.size, 0, none⟩ : Addr).block := by show w6.heap.size ≠ v2.heap.size; omega
                  have hne1 : w6.heap.size ≠ (⟨v2.heap.size, 1, none⟩ : Addr).block := by show w6.heap.size ≠ v2.heap.size; omega)
             have s0 := zu.c0
             have s1 := zu.c1
             have f0 := zu.frozen 0
             have f1 := zu.frozen 1))
      all_goals (first
        | exact key14 _ Z1 z1 Z2 z2 K1 kn kc _ ((kx'.trans zx').alloc _) ⟨(zS.nx ((Nx.refl v2).alloc _)).strs, (zW.nx ((Nx.refl v2).alloc _)).wrs, Box.new v2 _ _⟩
        | exact key14 _ Z1 z1 Z2 z2 K1 kn kc _ (((kx'.trans zx').setCell (p := ⟨v1.heap.size, 0, none⟩) kxs _).setCell (p := ⟨v1.heap.size, 1, none⟩) kxs _) (DkR.put zu zS zW)
        | exact key14 _ Z1 z1 Z2 z2 K1 kn kc _ (((kx'.trans zx').setCell (p := ⟨v13.heap.size, 0, none⟩) (Nat.le_refl _) _).setCell (p := ⟨v13.heap.size, 1, none⟩) (Nat.le_refl _) _) (DkR.put zu zS zW))
    have j0 : Nx w16 w16.drew := (Nx.refl w16).drew
    have j1 : Nx w16 (w16.drew.alloc (.cells #[.slice none 0 0, .slice none 0 0] 26)) := j0.alloc _
    have hk0 := h.below (hy16.trans j0) (Nat.le_refl _)
    have hk1 := h.below (hy16.trans j1) (Nat.le_refl _)
    have hs0 := (hy16.trans j0).size
    have hs1 := (hy16.trans j1).size
    have yb0 : Box w16.drew w6.heap.size 26 #[.slice X1 64 x1, .slice X2 (q + 1) x2] := X.2.2
    have zb1 : Box (w16.drew.alloc (.cells #[.slice none 0 0, .slice none 0 0] 26)) w16.heap.size 26 #[.slice none 0 0, .slice none 0 0] := Box.new w16.drew 26 #[.slice none 0 0, .slice none 0 0]
    have ylt := X.lt
    have hkl := keepsOf_len ys
    have c0 := yb0.c0
    have c1_ := yb0.c1
    go_wp2_with fail
    go_region_held3 (fun w' => w'.cell? ⟨w6.heap.size, 0, none⟩ = some (.slice X1 64 x1) ∧ w'.cell? ⟨w6.heap.size, 1, none⟩ = some (.slice X2 (q + 1) x2))
      (first | exact ⟨c0, c1_⟩ | exact ⟨(yb0.alloc _).c0, (yb0.alloc _).c1⟩ | exact ⟨yv.c0, yv.c1⟩ | exact ⟨(yv.alloc _).c0, (yv.alloc _).c1⟩ | exact ⟨yu.c0, yu.c1⟩ | exact ⟨(yu.alloc _).c0, (yu.alloc _).c1⟩ | exact ⟨((yu.far hne0 _).far hne1 _).c0, ((yu.far hne0 _).far hne1 _).c1⟩ | exact ⟨(((yu.alloc _).far hne0 _).far hne1 _).c0, (((yu.alloc _).far hne0 _).far hne1 _).c1⟩)
      (first
        | (go_at_call 15; refine (keepsOf_c A n c w.heap.size ys _ (by first | exact hk0 | exact hk1) (by first | exact hs0 | exact hs1) hb1).mono ?_; rintro e v1 ⟨K1, kn, kc, rfl, kB, kx⟩
           have kx' : Nx w16 v1 := by first | exact j0.trans kx | exact j1.trans kx
           have Yv := X.nx kx'
           have yv := Yv.2.2
           have va := (Nx.refl v1).alloc (.cells #[.slice none 0 0, .slice none 0 0] 26)
           have hkn : kn < 4 := by have := kB.1; omega
           first | (have zv := zb1.nx kx) | skip)
        | (go_at_call 14; refine (implCrashDisk_r X1 X2 64 x1 (q + 1) x2 _ ss V K1 kn kc (keepsOf ys) _ M [] 0 H2.out (by first | exact Yv.1 | exact (Yv.nx va).1) (by first | exact Yv.2.1 | exact (Yv.nx va).2.1) (Nat.le_refl _) (by omega) (by omega) (by first | exact kB.bls | exact (kB.nx va).bls) (by omega)).mono ?_; rintro e v2 ⟨Z1, z3, z1, Z2, z4, z2, rfl, zS, zW, zx⟩
           obtain rfl : 64 = z3 := hMl.symm.trans zS.1
           obtain rfl : 0 = z4 := zW.1
           have zx' : Nx v1 v2 := by first | exact zx | exact va.trans zx
           have yu := yv.nx zx'
           have kxs := kx'.size
           have zxs := zx'.size
           first
             | (have zu := zv.nx zx'
                have hne0 : w6.heap.size ≠ (⟨w16.heap.size, 0, none⟩ : Addr).block := by show w6.heap.size ≠ w16.heap.size; omega
                have hne1 : w6.heap.size ≠ (⟨w16.heap.size, 1, none⟩ : Addr).block := by show w6.heap.size ≠ w16.heap.size; omega)
             | (have zu := (Box.new v1 26 #[.slice none 0 0, .slice none 0 0]).nx zx
                have hne0 : w6.heap.size ≠ (⟨v1.heap.size, 0, none⟩ : Addr).block := by show w6.heap.size ≠ v1.heap.size; omega
                have hne1 : w6.heap.size ≠ (⟨v1.heap.size, 1, none⟩ : Addr).block := by show w6.heap.size ≠ v1.heap.size; omega)
             | (have zu := Box.new v2 26 #[.slice none 0 0, .slice none 0 0]
                have hne0 : w6.heap.size ≠ (⟨v2.heap.size, 0, none⟩ : Addr).block := by show w6.heap.size ≠ v2.heap.size; omega
                have hne1 : w6.heap.size ≠ (⟨v2.heap.size, 1, none⟩ : Addr).block := by show w6.heap.size ≠ v2.heap.size; omega)
           have s0 := zu.c0
           have s1 := zu.c1
           have f0 := zu.frozen 0
           have f1 := zu.frozen 1))
    all_goals (first
      | exact key13 _ Z1 z1 Z2 z2 K1 kn kc _ ((kx'.trans zx').alloc _) ⟨(zS.nx ((Nx.refl v2).alloc _)).strs, (zW.nx ((Nx.refl v2).alloc _)).wrs, Box.new v2 _ _⟩
      | exact key13 _ Z1 z1 Z2 z2 K1 kn kc _ (((kx'.trans zx').setCell (p := ⟨v1.heap.size, 0, none⟩) kxs _).setCell (p := ⟨v1.heap.size, 1, none⟩) kxs _) (DkR.put zu zS zW)
      | exact key13 _ Z1 z1 Z2 z2 K1 kn kc _ (((kx'.trans zx').setCell (p := ⟨w16.heap.size, 0, none⟩) (Nat.le_refl _) _).setCell (p := ⟨w16.heap.size, 1, none⟩) (Nat.le_refl _) _) (DkR.put zu zS zW))
  have j0 : Nx w10 w10.drew := (Nx.refl w10).drew
  have j1 : Nx w10 (w10.drew.alloc (.cells #[.slice none 0 0, .slice none 0 0] 26)) := j0.alloc _
  have hk0 := h'.below (hy10.trans j0) (Nat.le_refl _)
  have hk1 := h'.below (hy10.trans j1) (Nat.le_refl _)
  have hs0 := (hy10.trans j0).size
  have hs1 := (hy10.trans j1).size
  have yb0 : Box w10.drew w9.heap.size 26 #[.slice Y1 64 y1, .slice Y2 0 y2] := Y.2.2
  have zb1 : Box (w10.drew.alloc (.cells #[.slice none 0 0, .slice none 0 0] 26)) w10.heap.size 26 #[.slice none 0 0, .slice none 0 0] := Box.new w10.drew 26 #[.slice none 0 0, .slice none 0 0]
  have ylt := Y.lt
  have hkl := keepsOf_len zs
  have c0 := yb0.c0
  have c1_ := yb0.c1
  go_wp2_with fail
  go_region_held3 (fun w' => w'.cell? ⟨w9.heap.size, 0, none⟩ = some (.slice Y1 64 y1) ∧ w'.cell? ⟨w9.heap.size, 1, none⟩ = some (.slice Y2 0 y2))
    (first | exact ⟨c0, c1_⟩ | exact ⟨(yb0.alloc _).c0, (yb0.alloc _).c1⟩ | exact ⟨yv.c0, yv.c1⟩ | exact ⟨(yv.alloc _).c0, (yv.alloc _).c1⟩ | exact ⟨yu.c0, yu.c1⟩ | exact ⟨(yu.alloc _).c0, (yu.alloc _).c1⟩ | exact ⟨((yu.far hne0 _).far hne1 _).c0, ((yu.far hne0 _).far hne1 _).c1⟩ | exact ⟨(((yu.alloc _).far hne0 _).far hne1 _).c0, (((yu.alloc _).far hne0 _).far hne1 _).c1⟩)
    (first
      | (go_at_call 15; refine (keepsOf_c A' n' c' w.heap.size zs _ (by first | exact hk0 | exact hk1) (by first | exact hs0 | exact hs1) hb2).mono ?_; rintro e v1 ⟨K1, kn, kc, rfl, kB, kx⟩
         have kx' : Nx w10 v1 := by first | exact j0.trans kx | exact j1.trans kx
         have Yv := Y.nx kx'
         have yv := Yv.2.2
         have va := (Nx.refl v1).alloc (.cells #[.slice none 0 0, .slice none 0 0] 26)
         have hkn : kn < 4 := by have := kB.1; omega
         first | (have zv := zb1.nx kx) | skip)
      | (go_at_call 14; refine (implCrashDisk_r Y1 Y2 64 y1 0 y2 _ S [] K1 kn kc (keepsOf zs) _ S [] 0 HZ'.out (by first | exact Yv.1 | exact (Yv.nx va).1) (by first | exact Yv.2.1 | exact (Yv.nx va).2.1) (Nat.le_refl _) (by omega) (by omega) (by first | exact kB.bls | exact (kB.nx va).bls) (by omega)).mono ?_; rintro e v2 ⟨Z1, z3, z1, Z2, z4, z2, rfl, zS, zW, zx⟩
         obtain rfl : 64 = z3 := hSl.symm.trans zS.1
         obtain rfl : 0 = z4 := zW.1
         have zx' : Nx v1 v2 := by first | exact zx | exact va.trans zx
         have yu := yv.nx zx'
         have kxs := kx'.size
         have zxs := zx'.size
         first
           | (have zu := zv.nx zx'
              have hne0 : w9.heap.size ≠ (⟨w10.heap.size, 0, none⟩ : Addr).block := by show w9.heap.size ≠ w10.heap.size; omega
              have hne1 : w9.heap.size ≠ (⟨w10.heap.size, 1, none⟩ : Addr).block := by show w9.heap.size ≠ w10.heap.size; omega)
           | (have zu := (Box.new v1 26 #[.slice none 0 0, .slice none 0 0]).nx zx
              have hne0 : w9.heap.size ≠ (⟨v1.heap.size, 0, none⟩ : Addr).block := by show w9.heap.size ≠ v1.heap.size; omega
              have hne1 : w9.heap.size ≠ (⟨v1.heap.size, 1, none⟩ : Addr).block := by show w9.heap.size ≠ v1.heap.size; omega)
           | (have zu := Box.new v2 26 #[.slice none 0 0, .slice none 0 0]
              have hne0 : w9.heap.size ≠ (⟨v2.heap.size, 0, none⟩ : Addr).block := by show w9.heap.size ≠ v2.heap.size; omega
              have hne1 : w9.heap.size ≠ (⟨v2.heap.size, 1, none⟩ : Addr).block := by show w9.heap.size ≠ v2.heap.size; omega)
         have s0 := zu.c0
         have s1 := zu.c1
         have f0 := zu.frozen 0
         have f1 := zu.frozen 1))
  all_goals (first
    | exact key9 _ Z1 z1 Z2 z2 K1 kn kc _ ((kx'.trans zx').alloc _) ⟨(zS.nx ((Nx.refl v2).alloc _)).strs, (zW.nx ((Nx.refl v2).alloc _)).wrs, Box.new v2 _ _⟩
    | exact key9 _ Z1 z1 Z2 z2 K1 kn kc _ (((kx'.trans zx').setCell (p := ⟨v1.heap.size, 0, none⟩) kxs _).setCell (p := ⟨v1.heap.size, 1, none⟩) kxs _) (DkR.put zu zS zW)
    | exact key9 _ Z1 z1 Z2 z2 K1 kn kc _ (((kx'.trans zx').setCell (p := ⟨w10.heap.size, 0, none⟩) (Nat.le_refl _) _).setCell (p := ⟨w10.heap.size, 1, none⟩) (Nat.le_refl _) _) (DkR.put zu zS zW))
end Go.Proofs.Ytccapcadgjlmkaa
