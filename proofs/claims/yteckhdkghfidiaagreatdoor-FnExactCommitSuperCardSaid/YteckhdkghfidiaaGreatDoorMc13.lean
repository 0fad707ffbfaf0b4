/-
  Texts of the proof, put together in their order: Rdf, Rff, Lrf, Base, Mk.
  Conditions: those of each.
-/
import Derived.Test.YteckhdkghfidiaaGreatDoorMc12
import Derived.StillTailTactics
import Derived.Deep.RegionHeld3
import Derived.Laws.BytesArg
import Derived.Outline
/- Contracts of ReadFrame, as the model and as the program have it: both answer the same frame and code. Conditions: texts of at most 1048576 bytes; the package's errors are known. -/
namespace Go.Proofs.YteckhdkghfidiaaGreatDoor
set_option linter.unusedVariables false
open Go.RowKit

abbrev F4 := Nat × Nat × Nat × Nat
def frOf : List Nat → Option F4
  | [p, b, v, t] => if frameB p b v t then some (p, b, v, t) else none
  | _ => none
/-- The frame of a text. -/
def rdF (t : ByteArray) : Option F4 := (rdN t).bind frOf
def zF : F4 := (0, 0, 0, 0)
def vF (q : F4) : Value := .agg #[.int .i64 q.1, .int .i64 q.2.1, .int .i64 q.2.2.1, .int .i64 q.2.2.2]
theorem rdF_none {t : ByteArray} (h : rdN t = none) : rdF t = none := by unfold rdF; rw [h]; rfl
theorem rdF_len {t : ByteArray} {ns : List Nat} (h : rdN t = some ns) (hl : ns.length ≠ 4) : rdF t = none := by
  unfold rdF; rw [h]
  match ns, hl with
  | [], _ => rfl
  | [_], _ => rfl
  | [_, _], _ => rfl
  | [_, _, _], _ => rfl
  | [_, _, _, _], hl => exact absurd rfl hl
  | _ :: _ :: _ :: _ :: _ :: _, _ => rfl
theorem rdF_four {t : ByteArray} {n0 n1 n2 n3 : Nat} (h : rdN t = some [n0, n1, n2, n3]) : rdF t = if frameB n0 n1 n2 n3 then some (n0, n1, n2, n3) else none := by
  unfold rdF; rw [h]; rfl
theorem four {ns : List Nat} (h : ns.length = 4) : ∃ a b c d, ns = [a, b, c, d] := by
  match ns, h with
  | [a, b, c, d], _ => exact ⟨a, b, c, d, rfl⟩
theorem Row.four {w : World} {B : Nat} {A : Option Addr} {n0 n1 n2 n3 : Nat} (h : Row w B A 4 (intAt [n0, n1, n2, n3])) :
    ∃ b off, A = some ⟨b, off, none⟩ ∧ b < B ∧ w.cell? ⟨b, off, none⟩ = some (.int .i64 n0) ∧ w.cell? ⟨b, off + 1, none⟩ = some (.int .i64 n1) ∧ w.cell? ⟨b, off + 2, none⟩ = some (.int .i64 n2) ∧ w.cell? ⟨b, off + 3, none⟩ = some (.int .i64 n3) := by
  obtain ⟨b, off, e, hb, hc⟩ := h (by omega)
  exact ⟨b, off, e, hb, hc 0 (by omega), hc 1 (by omega), hc 2 (by omega), hc 3 (by omega)⟩

def RetTF (w : World) (o : Option F4) (e : Ending) (w' : World) : Prop := e = .returned (.tuple #[vF (o.getD zF), .bool o.isSome]) ∧ Nx w w'
end Go.Proofs.YteckhdkghfidiaaGreatDoor
/- Contracts of ReadFrame, as the model and as the program have it: both answer the same frame and code. Conditions: texts of at most 1048576 bytes; the package's errors are known. -/
namespace Go.Proofs.YteckhdkghfidiaaGreatDoor
set_option linter.unusedVariables false
open Go.RowKit

theorem Box.far4 {w : World} {g g' : Nat} {t : TypeId} {cs : Array Value} (h : Box w g t cs) (hg : g ≠ g') (v0 v1 v2 v3 : Value) : Box (put4 w g' v0 v1 v2 v3) g t cs :=
  (((h.far (p := ⟨g', 0, none⟩) hg v0).far (p := ⟨g', 1, none⟩) hg v1).far (p := ⟨g', 2, none⟩) hg v2).far (p := ⟨g', 3, none⟩) hg v3

/-- The frame and the code that a text has. -/
def frA (t : ByteArray) : F4 := if t.size ≤ 65536 then (rdF t).getD zF else zF
def frC (t : ByteArray) : Int := if t.size ≤ 65536 then (if (rdF t).isSome then 0 else 3) else 2
theorem frA_long {t : ByteArray} (h : ¬ t.size ≤ 65536) : Ending.returned (.tuple #[vF zF, .int .i64 2]) = .returned (.tuple #[vF (frA t), .int .i64 (frC t)]) := by unfold frA frC; rw [if_neg h, if_neg h]
theorem frA_none {t : ByteArray} (h : t.size ≤ 65536) (hr : rdF t = none) : Ending.returned (.tuple #[vF zF, .int .i64 3]) = .returned (.tuple #[vF (frA t), .int .i64 (frC t)]) := by unfold frA frC; rw [if_pos h, if_pos h, hr]; rfl
theorem frA_some {t : ByteArray} {q : F4} (h : t.size ≤ 65536) (hr : rdF t = some q) : Ending.returned (.tuple #[vF q, .int .i64 0]) = .returned (.tuple #[vF (frA t), .int .i64 (frC t)]) := by unfold frA frC; rw [if_pos h, if_pos h, hr]; rfl
def RetRF (w : World) (t : ByteArray) (e : Ending) (w' : World) : Prop := e = .returned (.tuple #[vF (frA t), .int .i64 (frC t)]) ∧ Nx w w'

def erV (a0 : Addr) (o : Option F4) : Value := if o.isSome then .nilIface else .iface 225 (.pointer (some a0))
def RetFT (w : World) (o : Option F4) (a0 : Addr) (e : Ending) (w' : World) : Prop := e = .returned (.tuple #[vF (o.getD zF), erV a0 o]) ∧ Nx w w'
end Go.Proofs.YteckhdkghfidiaaGreatDoor
/- Contracts of the program's ReadFrame, and the walk of the law FnExactReadFrame. Conditions: the package's errors are known. -/
namespace Go.Proofs.YteckhdkghfidiaaGreatDoor
set_option linter.unusedVariables false
open Go.RowKit

set_option maxHeartbeats 1000000 in
theorem textCode_nil (w : World) : Calls Tryz.prog 36 #[.nilIface] w fun e w' => e = .returned (.int .i64 0) ∧ w = w' := by
  go_enter Tryz.func36, Tryz.ntmps36
  go_wp2
  go_ret
  exact ⟨rfl, rfl⟩
set_option maxHeartbeats 1000000 in
theorem textCode_form (w : World) (a0 a1 : Addr) (hE : Er w a0 a1) : Calls Tryz.prog 36 #[.iface 225 (.pointer (some a0))] w fun e w' => e = .returned (.int .i64 3) ∧ w = w' := by
  obtain ⟨_, c1, hne, ⟨ca, ta, h0⟩, cb, tb, h1⟩ := hE
  have HE := Lib.hid (And.intro hne (And.intro h0 h1))
  clear hne h0 h1
  go_enter Tryz.func36, Tryz.ntmps36
  go_wp2_with fail
  refine (is_other a0 a1 ca cb ta tb _ HE.out.1 HE.out.2.1 HE.out.2.2).mono ?_
  rintro e w' ⟨rfl, rfl⟩
  go_wp2
  go_ret
  exact ⟨rfl, rfl⟩
set_option maxHeartbeats 1000000 in
theorem textCode_long (w : World) (a0 a1 : Addr) (hE : Er w a0 a1) : Calls Tryz.prog 36 #[.iface 225 (.pointer (some a1))] w fun e w' => e = .returned (.int .i64 2) ∧ w = w' := by
  obtain ⟨_, c1, _⟩ := hE
  go_enter Tryz.func36, Tryz.ntmps36
  go_wp2_with fail
  refine (is_same a1 _).mono ?_
  rintro e w' ⟨rfl, rfl⟩
  go_wp2
  go_ret
  exact ⟨rfl, rfl⟩
end Go.Proofs.YteckhdkghfidiaaGreatDoor
/- Words on memory for the texts of this seat: slices of texts and of writes that are read, what a size is, and how these facts go on from world to world. Conditions: none. -/
namespace Go.Proofs.YteckhdkghfidiaaGreatDoor
set_option linter.unusedVariables false
open Go.RowKit

def Strs (w : World) (B : Nat) (A : Option Addr) (n : Nat) (ss : List ByteArray) : Prop :=
  ss.length = n ∧ Row w B A n (fun i => .string (ss.getD i ByteArray.empty))
def Wrs (w : World) (B : Nat) (A : Option Addr) (n : Nat) (ws : List (Int × ByteArray)) : Prop :=
  ws.length = n ∧ Row w B A (n * 2) (fun i => if i % 2 = 0 then .int .i64 (ws.getD (i / 2) (0, ByteArray.empty)).1 else .string (ws.getD (i / 2) (0, ByteArray.empty)).2)
theorem Strs.below {w w' : World} {B B' n : Nat} {A : Option Addr} {ss : List ByteArray} (h : Strs w B A n ss) (hb : Below B' w w') (hB : B ≤ B') : Strs w' B A n ss := ⟨h.1, h.2.below hb hB⟩
theorem Strs.more {w : World} {B B' n : Nat} {A : Option Addr} {ss : List ByteArray} (h : Strs w B A n ss) (hB : B ≤ B') : Strs w B' A n ss := ⟨h.1, h.2.more hB⟩
theorem Wrs.below {w w' : World} {B B' n : Nat} {A : Option Addr} {ws : List (Int × ByteArray)} (h : Wrs w B A n ws) (hb : Below B' w w') (hB : B ≤ B') : Wrs w' B A n ws := ⟨h.1, h.2.below hb hB⟩
theorem Wrs.more {w : World} {B B' n : Nat} {A : Option Addr} {ws : List (Int × ByteArray)} (h : Wrs w B A n ws) (hB : B ≤ B') : Wrs w B' A n ws := ⟨h.1, h.2.more hB⟩
theorem Strs.at_ {w : World} {B n k : Nat} {A : Option Addr} {ss : List ByteArray} (h : Strs w B A n ss) (hk : k < n) :
    ∃ b off, A = some ⟨b, off, none⟩ ∧ b < B ∧ w.cell? ⟨b, off + k, none⟩ = some (.string (ss.getD k ByteArray.empty)) := by
  obtain ⟨b, off, e, hb, hc⟩ := h.2 (by omega)
  exact ⟨b, off, e, hb, hc k hk⟩
theorem Wrs.at_ {w : World} {B n k : Nat} {A : Option Addr} {ws : List (Int × ByteArray)} (h : Wrs w B A n ws) (hk : k < n) :
    ∃ b off, A = some ⟨b, off, none⟩ ∧ b < B ∧ w.cell? ⟨b, off + k * 2, none⟩ = some (.int .i64 (ws.getD k (0, ByteArray.empty)).1) ∧ w.cell? ⟨b, off + k * 2 + 1, none⟩ = some (.string (ws.getD k (0, ByteArray.empty)).2) := by
  obtain ⟨b, off, e, hb, hc⟩ := h.2 (by omega)
  have h0 := hc (k * 2) (by omega)
  have h1 := hc (k * 2 + 1) (by omega)
  have e1 : (k * 2) % 2 = 0 := by omega
  have e2 : ¬ (k * 2 + 1) % 2 = 0 := by omega
  have e3 : (k * 2) / 2 = k := by omega
  have e4 : (k * 2 + 1) / 2 = k := by omega
  simp only [e1, e3, if_true] at h0
  simp only [e2, e4, if_false] at h1
  exact ⟨b, off, e, hb, h0, h1⟩

def lenS (ss : List ByteArray) : Nat := (ss.map ByteArray.size).sum
def lenW (ws : List (Int × ByteArray)) : Nat := (ws.map fun x => x.2.size).sum
def lenSTo (ss : List ByteArray) (k : Nat) : Nat := ((ss.map ByteArray.size).take k).sum
def lenWTo (ws : List (Int × ByteArray)) (k : Nat) : Nat := ((ws.map fun x => x.2.size).take k).sum
theorem lenSTo_zero (ss : List ByteArray) : lenSTo ss 0 = 0 := rfl
theorem lenWTo_zero (ws : List (Int × ByteArray)) : lenWTo ws 0 = 0 := rfl
theorem lenSTo_le (ss : List ByteArray) (k : Nat) : lenSTo ss k ≤ lenS ss := sum_take_le _ _
theorem lenWTo_le (ws : List (Int × ByteArray)) (k : Nat) : lenWTo ws k ≤ lenW ws := sum_take_le _ _
theorem lenSTo_all (ss : List ByteArray) : lenSTo ss ss.length = lenS ss := by
  unfold lenSTo lenS; rw [List.take_of_length_le (by simp)]
theorem lenWTo_all (ws : List (Int × ByteArray)) : lenWTo ws ws.length = lenW ws := by
  unfold lenWTo lenW; rw [List.take_of_length_le (by simp)]
theorem lenSTo_succ (ss : List ByteArray) (k : Nat) (h : k < ss.length) : lenSTo ss (k + 1) = lenSTo ss k + (ss.getD k ByteArray.empty).size := by
  unfold lenSTo
  rw [sum_take_succ _ _ (by simpa using h), List.getD_eq_getElem?_getD, List.getElem?_eq_getElem h]; simp
theorem lenWTo_succ (ws : List (Int × ByteArray)) (k : Nat) (h : k < ws.length) : lenWTo ws (k + 1) = lenWTo ws k + (ws.getD k (0, ByteArray.empty)).2.size := by
  unfold lenWTo
  rw [sum_take_succ _ _ (by simpa using h), List.getD_eq_getElem?_getD, List.getElem?_eq_getElem h]; simp
def strAt (ss : List ByteArray) (i : Nat) : Value := .string (ss.getD i ByteArray.empty)
def wrAt (ws : List (Int × ByteArray)) (i : Nat) : Value := if i % 2 = 0 then .int .i64 (ws.getD (i / 2) (0, ByteArray.empty)).1 else .string (ws.getD (i / 2) (0, ByteArray.empty)).2
theorem wrAt_even (ws : List (Int × ByteArray)) (k : Nat) : wrAt ws (k * 2) = .int .i64 (ws.getD k (0, ByteArray.empty)).1 := by
  unfold wrAt; rw [if_pos (by omega), show k * 2 / 2 = k by omega]
theorem wrAt_odd (ws : List (Int × ByteArray)) (k : Nat) : wrAt ws (k * 2 + 1) = .string (ws.getD k (0, ByteArray.empty)).2 := by
  unfold wrAt; rw [if_neg (by omega), show (k * 2 + 1) / 2 = k by omega]
/-- A slice's row of texts, and of writes, in a block of the call's own. -/
def OwnS (w : World) (g : Nat) (ss : List ByteArray) : Prop := Own w g 9 ss.length (strAt ss)
def OwnW (w : World) (g : Nat) (ws : List (Int × ByteArray)) : Prop := Own w g 85 (ws.length * 2) (wrAt ws)
/-- A slice value whose elements lie in a block of the call's own, from block number lo on. -/
def SlS (w : World) (lo : Nat) (A : Option Addr) (n : Nat) (ss : List ByteArray) : Prop := ss.length = n ∧ (0 < n → ∃ g, A = some ⟨g, 0, none⟩ ∧ lo ≤ g ∧ OwnS w g ss)
def SlW (w : World) (lo : Nat) (A : Option Addr) (n : Nat) (ws : List (Int × ByteArray)) : Prop := ws.length = n ∧ (0 < n → ∃ g, A = some ⟨g, 0, none⟩ ∧ lo ≤ g ∧ OwnW w g ws)
theorem SlS.nil (w : World) (lo : Nat) : SlS w lo none 0 [] := ⟨rfl, fun h => absurd h (by omega)⟩
theorem SlW.nil (w : World) (lo : Nat) : SlW w lo none 0 [] := ⟨rfl, fun h => absurd h (by omega)⟩
theorem SlS.nx {w w' : World} {lo n : Nat} {A : Option Addr} {ss : List ByteArray} (h : SlS w lo A n ss) (hb : Nx w w') : SlS w' lo A n ss :=
  ⟨h.1, fun hn => by obtain ⟨g, e, hl, ho⟩ := h.2 hn; exact ⟨g, e, hl, Own.nx ho hb⟩⟩
theorem SlW.nx {w w' : World} {lo n : Nat} {A : Option Addr} {ws : List (Int × ByteArray)} (h : SlW w lo A n ws) (hb : Nx w w') : SlW w' lo A n ws :=
  ⟨h.1, fun hn => by obtain ⟨g, e, hl, ho⟩ := h.2 hn; exact ⟨g, e, hl, Own.nx ho hb⟩⟩
theorem SlS.low {w : World} {lo lo' n : Nat} {A : Option Addr} {ss : List ByteArray} (h : SlS w lo A n ss) (hl : lo' ≤ lo) : SlS w lo' A n ss :=
  ⟨h.1, fun hn => by obtain ⟨g, e, hl2, ho⟩ := h.2 hn; exact ⟨g, e, Nat.le_trans hl hl2, ho⟩⟩
theorem SlW.low {w : World} {lo lo' n : Nat} {A : Option Addr} {ws : List (Int × ByteArray)} (h : SlW w lo A n ws) (hl : lo' ≤ lo) : SlW w lo' A n ws :=
  ⟨h.1, fun hn => by obtain ⟨g, e, hl2, ho⟩ := h.2 hn; exact ⟨g, e, Nat.le_trans hl hl2, ho⟩⟩
theorem SlS.strs {w : World} {lo n : Nat} {A : Option Addr} {ss : List ByteArray} (h : SlS w lo A n ss) : Strs w w.heap.size A n ss :=
  ⟨h.1, fun hn => by
    obtain ⟨g, e, hl, ho⟩ := h.2 hn
    subst e
    have := Own.row ho (Own.lt ho)
    rw [h.1] at this
    exact this hn⟩
theorem SlW.wrs {w : World} {lo n : Nat} {A : Option Addr} {ws : List (Int × ByteArray)} (h : SlW w lo A n ws) : Wrs w w.heap.size A n ws :=
  ⟨h.1, fun hn => by
    obtain ⟨g, e, hl, ho⟩ := h.2 (by omega)
    subst e
    have := Own.row ho (Own.lt ho)
    rw [h.1] at this
    exact this hn⟩
/-- A slice whose elements lie in a block of the call's own, its number from lo to below hi. -/
def SrS (w : World) (lo hi : Nat) (A : Option Addr) (n : Nat) (ss : List ByteArray) : Prop := ss.length = n ∧ (0 < n → ∃ g, A = some ⟨g, 0, none⟩ ∧ lo ≤ g ∧ g < hi ∧ OwnS w g ss)
def SrW (w : World) (lo hi : Nat) (A : Option Addr) (n : Nat) (ws : List (Int × ByteArray)) : Prop := ws.length = n ∧ (0 < n → ∃ g, A = some ⟨g, 0, none⟩ ∧ lo ≤ g ∧ g < hi ∧ OwnW w g ws)
theorem SlS.sr {w : World} {lo n : Nat} {A : Option Addr} {ss : List ByteArray} (h : SlS w lo A n ss) : SrS w lo w.heap.size A n ss :=
  ⟨h.1, fun hn => by obtain ⟨g, e, hl, ho⟩ := h.2 hn; exact ⟨g, e, hl, Own.lt ho, ho⟩⟩
theorem SlW.sr {w : World} {lo n : Nat} {A : Option Addr} {ws : List (Int × ByteArray)} (h : SlW w lo A n ws) : SrW w lo w.heap.size A n ws :=
  ⟨h.1, fun hn => by obtain ⟨g, e, hl, ho⟩ := h.2 hn; exact ⟨g, e, hl, Own.lt ho, ho⟩⟩
theorem SrS.sl {w : World} {lo hi n : Nat} {A : Option Addr} {ss : List ByteArray} (h : SrS w lo hi A n ss) : SlS w lo A n ss :=
  ⟨h.1, fun hn => by obtain ⟨g, e, hl, _, ho⟩ := h.2 hn; exact ⟨g, e, hl, ho⟩⟩
theorem SrW.sl {w : World} {lo hi n : Nat} {A : Option Addr} {ws : List (Int × ByteArray)} (h : SrW w lo hi A n ws) : SlW w lo A n ws :=
  ⟨h.1, fun hn => by obtain ⟨g, e, hl, _, ho⟩ := h.2 hn; exact ⟨g, e, hl, ho⟩⟩
theorem SrS.rg {w w' : World} {lo hi a b n : Nat} {A : Option Addr} {ss : List ByteArray} (h : SrS w lo hi A n ss) (hb : Rg a b w w') (hd : hi ≤ a ∨ b ≤ lo) : SrS w' lo hi A n ss :=
  ⟨h.1, fun hn => by obtain ⟨g, e, hl, hh, ho⟩ := h.2 hn; exact ⟨g, e, hl, hh, Own.rg ho hb (by omega)⟩⟩
theorem SrW.rg {w w' : World} {lo hi a b n : Nat} {A : Option Addr} {ws : List (Int × ByteArray)} (h : SrW w lo hi A n ws) (hb : Rg a b w w') (hd : hi ≤ a ∨ b ≤ lo) : SrW w' lo hi A n ws :=
  ⟨h.1, fun hn => by obtain ⟨g, e, hl, hh, ho⟩ := h.2 hn; exact ⟨g, e, hl, hh, Own.rg ho hb (by omega)⟩⟩
theorem SrW.ty {w w' : World} {lo hi n : Nat} {A : Option Addr} {ws : List (Int × ByteArray)} (h : SrW w lo hi A n ws) (hb : TyK 9 w w') : SrW w' lo hi A n ws :=
  ⟨h.1, fun hn => by obtain ⟨g, e, hl, hh, ho⟩ := h.2 hn; exact ⟨g, e, hl, hh, hb _ _ _ _ (by decide) ho⟩⟩
theorem SrS.ty {w w' : World} {lo hi n : Nat} {A : Option Addr} {ss : List ByteArray} (h : SrS w lo hi A n ss) (hb : TyK 85 w w') : SrS w' lo hi A n ss :=
  ⟨h.1, fun hn => by obtain ⟨g, e, hl, hh, ho⟩ := h.2 hn; exact ⟨g, e, hl, hh, hb _ _ _ _ (by decide) ho⟩⟩
theorem SrS.nx {w w' : World} {lo hi n : Nat} {A : Option Addr} {ss : List ByteArray} (h : SrS w lo hi A n ss) (hb : Nx w w') : SrS w' lo hi A n ss :=
  ⟨h.1, fun hn => by obtain ⟨g, e, hl, hh, ho⟩ := h.2 hn; exact ⟨g, e, hl, hh, Own.nx ho hb⟩⟩
theorem SrW.nx {w w' : World} {lo hi n : Nat} {A : Option Addr} {ws : List (Int × ByteArray)} (h : SrW w lo hi A n ws) (hb : Nx w w') : SrW w' lo hi A n ws :=
  ⟨h.1, fun hn => by obtain ⟨g, e, hl, hh, ho⟩ := h.2 hn; exact ⟨g, e, hl, hh, Own.nx ho hb⟩⟩
/-- What a function leaves that answers a slice in new memory. -/
def RetS (w : World) (ss : List ByteArray) (e : Ending) (w' : World) : Prop := ∃ (A : Option Addr) (n c : Nat), e = .returned (.slice A n c) ∧ SlS w' w.heap.size A n ss ∧ Nx w w'
def RetW (w : World) (ws : List (Int × ByteArray)) (e : Ending) (w' : World) : Prop := ∃ (A : Option Addr) (n c : Nat), e = .returned (.slice A n c) ∧ SlW w' w.heap.size A n ws ∧ Nx w w'
theorem RetS.mk_own {w w' : World} {g n c : Nat} {ss : List ByteArray} (hn : ss.length = n) (hg : w.heap.size ≤ g) (h : OwnS w' g ss) (hb : Nx w w') : RetS w ss (.returned (.slice (some ⟨g, 0, none⟩) n c)) w' :=
  ⟨_, n, c, rfl, ⟨hn, fun _ => ⟨g, rfl, hg, h⟩⟩, hb⟩
theorem RetW.mk_own {w w' : World} {g n c : Nat} {ws : List (Int × ByteArray)} (hn : ws.length = n) (hg : w.heap.size ≤ g) (h : OwnW w' g ws) (hb : Nx w w') : RetW w ws (.returned (.slice (some ⟨g, 0, none⟩) n c)) w' :=
  ⟨_, n, c, rfl, ⟨hn, fun _ => ⟨g, rfl, hg, h⟩⟩, hb⟩
theorem SlS.far {w : World} {lo n : Nat} {A : Option Addr} {ss : List ByteArray} (h : SlS w lo A n ss) {p : Addr} (hp : p.block < lo) (v : Value) : SlS (w.setCell p v) lo A n ss :=
  ⟨h.1, fun hn => by obtain ⟨g, e, hl, ho⟩ := h.2 hn; exact ⟨g, e, hl, Own.far ho (by omega) v⟩⟩
theorem SlW.far {w : World} {lo n : Nat} {A : Option Addr} {ws : List (Int × ByteArray)} (h : SlW w lo A n ws) {p : Addr} (hp : p.block < lo) (v : Value) : SlW (w.setCell p v) lo A n ws :=
  ⟨h.1, fun hn => by obtain ⟨g, e, hl, ho⟩ := h.2 hn; exact ⟨g, e, hl, Own.far ho (by omega) v⟩⟩
/-- What a function leaves that answers a disk in new memory. -/
def RetDisk (w : World) (ss : List ByteArray) (ws : List (Int × ByteArray)) (e : Ending) (w' : World) : Prop :=
  ∃ (A : Option Addr) (n c : Nat) (A2 : Option Addr) (n2 c2 : Nat), e = .returned (.agg #[.slice A n c, .slice A2 n2 c2]) ∧ SlS w' w.heap.size A n ss ∧ SlW w' w.heap.size A2 n2 ws ∧ Nx w w'
def RetDiskCode (w : World) (ss : List ByteArray) (ws : List (Int × ByteArray)) (code : Int) (e : Ending) (w' : World) : Prop :=
  ∃ (A : Option Addr) (n c : Nat) (A2 : Option Addr) (n2 c2 : Nat), e = .returned (.tuple #[.agg #[.slice A n c, .slice A2 n2 c2], .int .i64 code]) ∧ SlS w' w.heap.size A n ss ∧ SlW w' w.heap.size A2 n2 ws ∧ Nx w w'
/-- A result's box that is filled with two slices at the end. -/
theorem fin_box {w u : World} {gr lo lo2 n3 n4 : Nat} {A3 A4 : Option Addr} {v0 v1 : Value} {t : TypeId} {ss : List ByteArray} {ws : List (Int × ByteArray)} (c3 c4 : Nat) (hb : Box u gr t #[v0, v1]) (hS : SlS u lo A3 n3 ss) (hW : SlW u lo2 A4 n4 ws)
    (hlo : gr < lo) (hlo2 : gr < lo2) (hx : Nx w u) (hg : w.heap.size ≤ gr) :
    ((u.setCell ⟨gr, 0, none⟩ (.slice A3 n3 c3)).setCell ⟨gr, 1, none⟩ (.slice A4 n4 c4)).cell? ⟨gr, 0, none⟩ = some (.slice A3 n3 c3) ∧
    ((u.setCell ⟨gr, 0, none⟩ (.slice A3 n3 c3)).setCell ⟨gr, 1, none⟩ (.slice A4 n4 c4)).cell? ⟨gr, 1, none⟩ = some (.slice A4 n4 c4) ∧
    SlS ((u.setCell ⟨gr, 0, none⟩ (.slice A3 n3 c3)).setCell ⟨gr, 1, none⟩ (.slice A4 n4 c4)) w.heap.size A3 n3 ss ∧
    SlW ((u.setCell ⟨gr, 0, none⟩ (.slice A3 n3 c3)).setCell ⟨gr, 1, none⟩ (.slice A4 n4 c4)) w.heap.size A4 n4 ws ∧
    Nx w ((u.setCell ⟨gr, 0, none⟩ (.slice A3 n3 c3)).setCell ⟨gr, 1, none⟩ (.slice A4 n4 c4)) := by
  have q := (hb.set0 (.slice A3 n3 c3)).set1 (.slice A4 n4 c4)
  exact ⟨q.c0, q.c1, ((hS.far (p := ⟨gr, 0, none⟩) hlo _).far (p := ⟨gr, 1, none⟩) hlo _).low (by omega), ((hW.far (p := ⟨gr, 0, none⟩) hlo2 _).far (p := ⟨gr, 1, none⟩) hlo2 _).low (by omega), (hx.setCell (p := ⟨gr, 0, none⟩) hg _).setCell (p := ⟨gr, 1, none⟩) hg _⟩
/-- A disk of the program's in a variable: its slices lie in blocks of the call's own from lo to below hi, the variable's box is block hi. -/
def Dk (w : World) (lo hi : Nat) (A : Option Addr) (n c : Nat) (A2 : Option Addr) (n2 c2 : Nat) (ss : List ByteArray) (ws : List (Int × ByteArray)) : Prop :=
  SrS w lo hi A n ss ∧ SrW w lo hi A2 n2 ws ∧ Box w hi 35 #[.slice A n c, .slice A2 n2 c2]
section
variable {w w' : World} {lo hi : Nat} {A : Option Addr} {n c : Nat} {A2 : Option Addr} {n2 c2 : Nat} {ss : List ByteArray} {ws : List (Int × ByteArray)}
theorem Dk.new (hS : SlS w lo A n ss) (hW : SlW w lo A2 n2 ws) : Dk (w.alloc (.cells #[.slice A n c, .slice A2 n2 c2] 35)) lo w.heap.size A n c A2 n2 c2 ss ws :=
  ⟨hS.sr.nx ((Nx.refl w).alloc _), hW.sr.nx ((Nx.refl w).alloc _), Box.new w _ _⟩
theorem Dk.nx (h : Dk w lo hi A n c A2 n2 c2 ss ws) (hb : Nx w w') : Dk w' lo hi A n c A2 n2 c2 ss ws := ⟨h.1.nx hb, h.2.1.nx hb, h.2.2.nx hb⟩
theorem Dk.rg {a b : Nat} (h : Dk w lo hi A n c A2 n2 c2 ss ws) (hb : Rg a b w w') (hd : hi < a ∨ b ≤ lo) (hlo : lo ≤ hi) : Dk w' lo hi A n c A2 n2 c2 ss ws :=
  ⟨h.1.rg hb (by omega), h.2.1.rg hb (by omega), h.2.2.rg hb (by omega)⟩
theorem Dk.c0 (h : Dk w lo hi A n c A2 n2 c2 ss ws) : w.cell? ⟨hi, 0, none⟩ = some (.slice A n c) := h.2.2.c0
theorem Dk.c1 (h : Dk w lo hi A n c A2 n2 c2 ss ws) : w.cell? ⟨hi, 1, none⟩ = some (.slice A2 n2 c2) := h.2.2.c1
theorem Dk.strs (h : Dk w lo hi A n c A2 n2 c2 ss ws) : Strs w w.heap.size A n ss := h.1.sl.strs
theorem Dk.wrs (h : Dk w lo hi A n c A2 n2 c2 ss ws) : Wrs w w.heap.size A2 n2 ws := h.2.1.sl.wrs
end
theorem OwnS.strs {w : World} {g B : Nat} {ss : List ByteArray} (h : OwnS w g ss) (hB : g < B) : Strs w B (some ⟨g, 0, none⟩) ss.length ss := ⟨rfl, Own.row h hB⟩
theorem OwnW.wrs {w : World} {g B : Nat} {ws : List (Int × ByteArray)} (h : OwnW w g ws) (hB : g < B) : Wrs w B (some ⟨g, 0, none⟩) ws.length ws := ⟨rfl, Own.row h hB⟩
end Go.Proofs.YteckhdkghfidiaaGreatDoor
/- Contracts of the laws' functions that mark disks and ask whether the marks are still there. Conditions: numbers below 2^40. -/
namespace Go.Proofs.YteckhdkghfidiaaGreatDoor
set_option linter.unusedVariables false
open Go.RowKit

/-- The text of one digit. -/
def dg (k : Nat) : ByteArray := strOfNums [48 + (k : Int) % 10]
theorem dg_size (k : Nat) : (dg k).size = 1 := by simp [dg, strOfNums, ByteArray.size]
def mtL (k : Nat) (o : ByteArray) : ByteArray := if h : k = 0 then o else mtL (k / 10) (dg k ++ o)
termination_by k
decreasing_by omega
theorem mtL_zero (o : ByteArray) : mtL 0 o = o := by rw [mtL]; simp
theorem mtL_pos (k : Nat) (o : ByteArray) (h : 0 < k) : mtL k o = mtL (k / 10) (dg k ++ o) := by rw [mtL, dif_neg (by omega)]
/-- The mark of a number. -/
def mt (k : Nat) : ByteArray := if k = 0 then ⟨#[109, 48]⟩ else ⟨#[109]⟩ ++ mtL k ⟨#[]⟩
def MtTo (K k : Nat) (o : ByteArray) : Prop := mtL K ⟨#[]⟩ = mtL k o

theorem MtTo.next_ {K k : Nat} {o : ByteArray} (h : MtTo K k o) (hp : 0 < k) : MtTo K (k / 10) (dg k ++ o) := by
  unfold MtTo at h ⊢; rw [h, mtL_pos k o hp]
theorem MtTo.done {K : Nat} {o : ByteArray} (h : MtTo K 0 o) (hK : 0 < K) : ⟨#[109]⟩ ++ o = mt K := by
  unfold MtTo at h
  unfold mt
  rw [if_neg (by omega), h, mtL_zero]
theorem ret_str' {a b : ByteArray} (h : a = b) : Ending.returned (.string a) = .returned (.string b) := by rw [h]
theorem conv_one (x : Int) (W : World) : (convert 22 9 (.slice (some ⟨W.heap.size, 0, none⟩) 1 1)).run Tryz.prog (W.alloc (.cells #[.int .u8 x] 5)) = .ok (.string (strOfNums [x])) (W.alloc (.cells #[.int .u8 x] 5)) :=
  run_convert_bytes_arg _ 22 5 Tryz.underlying22 Tryz.underlying5 W.heap.size 0 1 1 [x] rfl (fun i hi => by
    obtain rfl : i = 0 := by omega
    exact (Box.new W 5 #[.int .u8 x]).cell 0) 9 Tryz.underlying9

set_option maxHeartbeats 1000000 in
theorem markText_c (k : Nat) (w : World) (hk : k ≤ 1099511627776) : Calls Tryz.prog 112 #[.int .i64 k] w fun e w' => e = .returned (.string (mt k)) ∧ Nx w w' := by
  rcases Nat.eq_zero_or_pos k with hz | hp
  · subst hz
    go_enter Tryz.func112, Tryz.ntmps112
    go_wp2
    go_ret
    exact ⟨rfl, Nx.refl _⟩
  have hd : decide ((k : Int) ≤ 0) = false := by simp; omega
  have hd0 : decide (k = 0) = false := by simp; omega
  go_enter Tryz.func112, Tryz.ntmps112
  go_wp2
  go_loopw [0, 3] (fun i o wr => ∃ (j : Nat) (s : ByteArray), j ≤ k ∧ i = .int .i64 j ∧ o = .string s ∧ s.size + j ≤ k ∧ MtTo k j s ∧ Nx w wr) (fun i _ _ => (intOf i).toNat)
  case atStart => exact ⟨k, ⟨#[]⟩, Nat.le_refl _, rfl, rfl, by show 0 + k ≤ k; omega, rfl, Nx.refl _⟩
  case round =>
    obtain ⟨j, s, hj, rfl, rfl, hs, hto, hnx⟩ := hrel
    rcases Nat.eq_zero_or_pos j with hz | hp2
    · subst hz
      have HF := Lib.hid (hto.done hp)
      go_wp2
      go_ret
      exact ⟨ret_str' HF.out, hnx⟩
    · have hd2 : decide (0 < (j : Int)) = true := by simp; omega
      have hcv := conv_one (48 + (j : Int) % 10) wr
      have HF := Lib.hid (hto.next_ hp2)
      rw [show strOfNums [48 + (j : Int) % 10] = dg j from rfl] at hcv
      have HZ := Lib.hid (dg_size j)
      have hz1 : (dg j).size ≤ 1 := by rw [HZ.out]; omega
      generalize dg j = g at *
      go_wp2
      go_roundw
      case rel => exact ⟨j / 10, g ++ s, by omega, by go_num, rfl, by rw [ByteArray.size_append]; have := HZ.out; omega, HF.out, hnx.alloc _⟩
      case measure => simp [intOf]; omega

def markS (k n : Nat) : List ByteArray := (List.range n).map (fun i => mt (k + i))
def markW (k n : Nat) : List (Int × ByteArray) := (List.range n).map (fun i => (((k + i * 2 : Nat) : Int), mt (k + i * 2 + 1)))
theorem markS_len (k n : Nat) : (markS k n).length = n := by simp [markS]
theorem markW_len (k n : Nat) : (markW k n).length = n := by simp [markW]
theorem markS_at {k n i : Nat} (h : i < n) : (markS k n).getD i ByteArray.empty = mt (k + i) := by
  unfold markS; rw [List.getD_eq_getElem?_getD, List.getElem?_map, List.getElem?_range h]; rfl
theorem markW_at {k n i : Nat} (h : i < n) : (markW k n).getD i (0, ByteArray.empty) = (((k + i * 2 : Nat) : Int), mt (k + i * 2 + 1)) := by
  unfold markW; rw [List.getD_eq_getElem?_getD, List.getElem?_map, List.getElem?_range h]; rfl
/-- A slice that is being filled with marks. -/
def FillA (w : World) (lo hi : Nat) (A : Option Addr) (n : Nat) (t : TypeId) (m k : Nat) (F : Nat → Value) : Prop := 0 < n → ∃ g, A = some ⟨g, 0, none⟩ ∧ lo ≤ g ∧ g < hi ∧ Fill w g t m k F

set_option maxHeartbeats 1000000 in
theorem markStringS_c (A : Option Addr) (n c k lo hi : Nat) (ss : List ByteArray) (w : World) (h : SrS w lo hi A n ss) (hi' : hi ≤ w.heap.size) (hn : n ≤ 1048576) (hk : k ≤ 1099510579200) :
    Calls Tryz.prog 59 #[.slice A n c, .int .i64 k] w fun e w' => e = .returned (.int .i64 ((k + n : Nat) : Int)) ∧ SrS w' lo hi A n (markS k n) ∧ Rg lo hi w w' ∧ TyK 9 w w' := by
  have HS : FillA w lo hi A n 9 n 0 (strAt (markS k n)) := fun hn0 => by
    obtain ⟨g, e, h1, h2, ho⟩ := h.2 hn0
    unfold OwnS at ho
    rw [h.1] at ho
    exact ⟨g, e, h1, h2, Fill.start ho⟩
  go_enter Tryz.func59, Tryz.ntmps59
  go_wp2
  go_loopw [1, 5] (fun q i wr => ∃ j : Nat, j ≤ n ∧ i = .int .i64 j ∧ q = .int .i64 ((k + j : Nat) : Int) ∧ FillA wr lo hi A n 9 n j (strAt (markS k n)) ∧ Rg lo hi w wr ∧ TyK 9 w wr) (fun _ i _ => n - (intOf i).toNat)
  case atStart => exact ⟨0, Nat.zero_le _, rfl, rfl, HS, Rg.of_nx (Nx.refl _), TyK.refl _ _⟩
  case round =>
    obtain ⟨j, hj, rfl, rfl, hf, hrg, hty⟩ := hrel
    clear HS
    by_cases hlt : j < n
    · obtain ⟨g, rfl, hg1, hg2, hfill⟩ := hf (by omega)
      go_wp2_with fail
      refine (markText_c (k + j) _ (by omega)).mono ?_
      rintro e w1 ⟨rfl, hnx1⟩
      have hf1 := hfill.nx hnx1
      obtain ⟨v, hv⟩ := hf1.some_ hlt
      have hz := hf1.frozen j
      go_wp2
      go_roundw
      case rel =>
        refine ⟨j + 1, by omega, by go_num, by go_num, fun _ => ⟨g, rfl, hg1, hg2, hf1.step hlt ?_⟩, (hrg.trans (Rg.of_nx hnx1)).setCell hg1 hg2 _, (hty.nx hnx1).set_fill hf1 _⟩
        unfold strAt; rw [markS_at hlt]
      case measure => simp [intOf]; omega
    · obtain rfl : j = n := by omega
      go_wp2
      go_ret
      refine ⟨rfl, ⟨markS_len _ _, fun hn0 => ?_⟩, hrg, hty⟩
      obtain ⟨g, e, h1, h2, ho⟩ := hf hn0
      refine ⟨g, e, h1, h2, ?_⟩
      unfold OwnS
      rw [markS_len]
      exact ho.done

set_option maxHeartbeats 1000000 in
theorem markWriteS_c (A : Option Addr) (n c k lo hi : Nat) (ws : List (Int × ByteArray)) (w : World) (h : SrW w lo hi A n ws) (hi' : hi ≤ w.heap.size) (hn : n ≤ 1048576) (hk : k ≤ 1099500000000) :
    Calls Tryz.prog 60 #[.slice A n c, .int .i64 k] w fun e w' => e = .returned (.int .i64 ((k + n * 2 : Nat) : Int)) ∧ SrW w' lo hi A n (markW k n) ∧ Rg lo hi w w' ∧ TyK 85 w w' := by
  have HS : FillA w lo hi A n 85 (n * 2) 0 (wrAt (markW k n)) := fun hn0 => by
    obtain ⟨g, e, h1, h2, ho⟩ := h.2 hn0
    unfold OwnW at ho
    rw [h.1] at ho
    exact ⟨g, e, h1, h2, Fill.start ho⟩
  go_enter Tryz.func60, Tryz.ntmps60
  go_wp2
  go_loopw [1, 5] (fun q i wr => ∃ j : Nat, j ≤ n ∧ i = .int .i64 j ∧ q = .int .i64 ((k + j * 2 : Nat) : Int) ∧ FillA wr lo hi A n 85 (n * 2) (j * 2) (wrAt (markW k n)) ∧ Rg lo hi w wr ∧ TyK 85 w wr) (fun _ i _ => n - (intOf i).toNat)
  case atStart => exact ⟨0, Nat.zero_le _, rfl, rfl, HS, Rg.of_nx (Nx.refl _), TyK.refl _ _⟩
  case round =>
    obtain ⟨j, hj, rfl, rfl, hf, hrg, hty⟩ := hrel
    clear HS
    by_cases hlt : j < n
    · obtain ⟨g, rfl, hg1, hg2, hfill⟩ := hf (by omega)
      have hs1 := hfill.step (v := .int .i64 ((k : Int) + (j : Int) * 2)) (by omega) (by rw [wrAt_even, markW_at hlt]; go_num)
      obtain ⟨v0, hv0⟩ := hfill.some_ (i := j * 2) (by omega)
      have hz0 := hfill.frozen (j * 2)
      go_wp2_with fail
      have hr1 := hrg.setCell (p := ⟨g, j * 2, none⟩) hg1 hg2 (.int .i64 ((k : Int) + (j : Int) * 2))
      have ht1 := hty.set_fill (i := j * 2) hfill (.int .i64 ((k : Int) + (j : Int) * 2))
      generalize wr.setCell ⟨g, j * 2, none⟩ (.int .i64 ((k : Int) + (j : Int) * 2)) = w1 at *
      clear hv0 hz0 hfill
      rw [show ((k : Int) + (j : Int) * 2 + 1) = ((k + j * 2 + 1 : Nat) : Int) from by omega]
      refine (markText_c (k + j * 2 + 1) _ (by omega)).mono ?_
      rintro e w2 ⟨rfl, hnx2⟩
      have hf2 := hs1.nx hnx2
      obtain ⟨v1, hv1⟩ := hf2.some_ (i := j * 2 + 1) (by omega)
      have hz1 := hf2.frozen (j * 2 + 1)
      go_wp2
      go_roundw
      case rel =>
        refine ⟨j + 1, by omega, by go_num, by go_num, fun _ => ⟨g, rfl, hg1, hg2, ?_⟩, (hr1.trans (Rg.of_nx hnx2)).setCell hg1 hg2 _, (ht1.nx hnx2).set_fill hf2 _⟩
        rw [show (j + 1) * 2 = j * 2 + 1 + 1 by omega]
        exact hf2.step (by omega) (by rw [wrAt_odd, markW_at hlt])
      case measure => simp [intOf]; omega
    · obtain rfl : j = n := by omega
      go_wp2
      go_ret
      refine ⟨rfl, ⟨markW_len _ _, fun hn0 => ?_⟩, hrg, hty⟩
      obtain ⟨g, e, h1, h2, ho⟩ := hf hn0
      refine ⟨g, e, h1, h2, ?_⟩
      unfold OwnW
      rw [markW_len]
      exact ho.done

set_option maxHeartbeats 1000000 in
theorem heldStringS_c (A : Option Addr) (n c k B : Nat) (w : World) (h : Strs w B A n (markS k n)) (hB : B ≤ w.heap.size) (hn : n ≤ 1048576) (hk : k ≤ 1099510579200) :
    Calls Tryz.prog 69 #[.slice A n c, .int .i64 k] w fun e w' => e = .returned (.int .i64 ((k + n : Nat) : Int)) ∧ Nx w w' := by
  go_enter Tryz.func69, Tryz.ntmps69
  go_wp2
  go_loopw [1, 5] (fun q i wr => ∃ j : Nat, j ≤ n ∧ i = .int .i64 j ∧ q = .int .i64 ((k + j : Nat) : Int) ∧ Nx w wr) (fun _ i _ => n - (intOf i).toNat)
  case atStart => exact ⟨0, Nat.zero_le _, rfl, rfl, Nx.refl _⟩
  case round =>
    obtain ⟨j, hj, rfl, rfl, hnx⟩ := hrel
    by_cases hlt : j < n
    · have hnd : Nx w wr.drew := hnx.drew
      obtain ⟨b, off, rfl, hb, hc⟩ := (h.below hnd hB).at_ hlt
      rw [markS_at hlt] at hc
      have hbw : b < wr.drew.heap.size := Nat.lt_of_lt_of_le (Nat.lt_of_lt_of_le hb hB) hnd.size
      go_wp2_with fail
      go_region_held3 (fun w' => w'.cell? ⟨b, off + j, none⟩ = some (.string (mt (k + j)))) (first | exact hc | exact k0)
        (first | (go_at_call 112; refine (markText_c (k + j) _ (by omega)).mono ?_; rintro e w1 ⟨rfl, hnx1⟩; have k0 := (hnx1.cell (p := ⟨b, off + j, none⟩) hbw).trans hc))
      go_wp2
      go_roundw
      case rel => exact ⟨j + 1, by omega, by go_num, by go_num, hnd.trans hnx1⟩
      case measure => simp [intOf]; omega
    · obtain rfl : j = n := by omega
      go_wp2
      go_ret
      exact ⟨rfl, hnx⟩

set_option maxHeartbeats 1000000 in
theorem heldWriteS_c (A : Option Addr) (n c k B : Nat) (w : World) (h : Wrs w B A n (markW k n)) (hB : B ≤ w.heap.size) (hn : n ≤ 1048576) (hk : k ≤ 1099500000000) :
    Calls Tryz.prog 70 #[.slice A n c, .int .i64 k] w fun e w' => e = .returned (.int .i64 ((k + n * 2 : Nat) : Int)) ∧ Nx w w' := by
  go_enter Tryz.func70, Tryz.ntmps70
  go_wp2
  go_loopw [1, 5] (fun q i wr => ∃ j : Nat, j ≤ n ∧ i = .int .i64 j ∧ q = .int .i64 ((k + j * 2 : Nat) : Int) ∧ Nx w wr) (fun _ i _ => n - (intOf i).toNat)
  case atStart => exact ⟨0, Nat.zero_le _, rfl, rfl, Nx.refl _⟩
  case round =>
    obtain ⟨j, hj, rfl, rfl, hnx⟩ := hrel
    by_cases hlt : j < n
    · have hnd : Nx w wr.drew := hnx.drew
      obtain ⟨b, off, rfl, hb, hc, hd⟩ := (h.below hnd hB).at_ hlt
      rw [markW_at hlt] at hc hd
      have hc' : wr.cell? ⟨b, off + j * 2, none⟩ = some (.int .i64 ((k : Int) + (j : Int) * 2)) := by
        have e : (((k + j * 2 : Nat) : Int)) = (k : Int) + (j : Int) * 2 := by omega
        rw [← e]; exact hc
      clear hc
      have hbw : b < wr.drew.heap.size := Nat.lt_of_lt_of_le (Nat.lt_of_lt_of_le hb hB) hnd.size
      rw [show (((k + j * 2 : Nat) : Int)) = (k : Int) + (j : Int) * 2 from by omega]
      dsimp only at hd
      go_wp2_with fail
      go_region_held3 (fun w' => w'.cell? ⟨b, off + j * 2 + 1, none⟩ = some (.string (mt (k + j * 2 + 1)))) (first | exact hd | exact k0)
        (first | (go_at_call 112; rw [show ((k : Int) + (j : Int) * 2 + 1) = ((k + j * 2 + 1 : Nat) : Int) from by omega]; refine (markText_c (k + j * 2 + 1) _ (by omega)).mono ?_; rintro e w1 ⟨rfl, hnx1⟩; have k0 := (hnx1.cell (p := ⟨b, off + j * 2 + 1, none⟩) hbw).trans hd))
      go_wp2
      go_roundw
      case rel => exact ⟨j + 1, by omega, by go_num, by go_num, hnd.trans hnx1⟩
      case measure => simp [intOf]; omega
    · obtain rfl : j = n := by omega
      go_wp2
      go_ret
      exact ⟨rfl, hnx⟩

set_option maxHeartbeats 1000000 in
theorem markDisk_c (A A2 : Option Addr) (n c n2 c2 k lo hi : Nat) (ss : List ByteArray) (ws : List (Int × ByteArray)) (w : World) (h : SrS w lo hi A n ss) (h2 : SrW w lo hi A2 n2 ws) (hi' : hi ≤ w.heap.size) (hn : n ≤ 1048576) (hn2 : n2 ≤ 1048576) (hk : k ≤ 1048576) :
    Calls Tryz.prog 23 #[.agg #[.slice A n c, .slice A2 n2 c2], .int .i64 k] w fun e w' => e = .returned (.int .i64 ((k + n + n2 * 2 : Nat) : Int)) ∧ SrS w' lo hi A n (markS k n) ∧ SrW w' lo hi A2 n2 (markW (k + n) n2) ∧ Rg lo hi w w' := by
  go_enter Tryz.func23, Tryz.ntmps23
  go_wp2_with fail
  have b0 := Box.new w 35 #[.slice A n c, .slice A2 n2 c2]
  have hnx0 := (Nx.refl w).alloc (.cells #[.slice A n c, .slice A2 n2 c2] 35)
  have HZ := Lib.hid (show (w.alloc (.cells #[.slice A n c, .slice A2 n2 c2] 35)).heap.size = w.heap.size + 1 by simp)
  generalize w.alloc (.cells #[.slice A n c, .slice A2 n2 c2] 35) = W at *
  refine (markStringS_c A n c k lo hi ss _ (h.nx hnx0) (by have := HZ.out; omega) hn (by omega)).mono ?_
  rintro e w1 ⟨rfl, hS1, hr1, ht1⟩
  have b1 := b0.rg hr1 (.inr hi')
  have c1 := b1.c1
  have c0 := b1.c0
  have hsz1 := hr1.size
  go_wp2_with fail
  rw [show ((k : Int) + (n : Int)) = ((k + n : Nat) : Int) from by omega]
  refine (markWriteS_c A2 n2 c2 (k + n) lo hi ws _ ((h2.nx hnx0).ty ht1) (by have := HZ.out; omega) hn2 (by omega)).mono ?_
  rintro e w2 ⟨rfl, hW2, hr2, ht2⟩
  go_wp2
  go_ret
  exact ⟨rfl, hS1.ty ht2, hW2, ((Rg.of_nx hnx0).trans hr1).trans hr2⟩

set_option maxHeartbeats 1000000 in
theorem heldDisk_c (A A2 : Option Addr) (n c n2 c2 k B : Nat) (w : World) (h : Strs w B A n (markS k n)) (h2 : Wrs w B A2 n2 (markW (k + n) n2)) (hB : B ≤ w.heap.size) (hn : n ≤ 1048576) (hn2 : n2 ≤ 1048576) (hk : k ≤ 1048576) :
    Calls Tryz.prog 28 #[.agg #[.slice A n c, .slice A2 n2 c2], .int .i64 k] w fun e w' => e = .returned (.int .i64 ((k + n + n2 * 2 : Nat) : Int)) ∧ Nx w w' := by
  go_enter Tryz.func28, Tryz.ntmps28
  go_wp2_with fail
  have b0 := Box.new w 35 #[.slice A n c, .slice A2 n2 c2]
  have hnx0 := (Nx.refl w).alloc (.cells #[.slice A n c, .slice A2 n2 c2] 35)
  generalize w.alloc (.cells #[.slice A n c, .slice A2 n2 c2] 35) = W at *
  refine (heldStringS_c A n c k B _ (h.below hnx0 hB) (Nat.le_trans hB hnx0.size) hn (by omega)).mono ?_
  rintro e w1 ⟨rfl, hnx1⟩
  have b1 := b0.nx hnx1
  have c1 := b1.c1
  have c0 := b1.c0
  have hx1 := hnx0.trans hnx1
  have hd : decide ((k : Int) + (n : Int) < 0) = false := by simp; omega
  go_wp2_with fail
  rw [show ((k : Int) + (n : Int)) = ((k + n : Nat) : Int) from by omega]
  refine (heldWriteS_c A2 n2 c2 (k + n) B _ (h2.below hx1 hB) (Nat.le_trans hB hx1.size) hn2 (by omega)).mono ?_
  rintro e w2 ⟨rfl, hnx2⟩
  have hd2 : decide ((((k + n + n2 * 2 : Nat) : Int)) < 0) = false := by simp; omega
  go_wp2
  go_ret
  exact ⟨by first | rfl | go_num, hx1.trans hnx2⟩
end Go.Proofs.YteckhdkghfidiaaGreatDoor
