/-
  Words on memory for the texts of this seat: slices of texts and of writes that are read, what a size is, and how these facts go on from world to world.
  Conditions: none.
-/
import Derived.Test.YteckhdkghfidiaaDoorCore
namespace Go.Proofs.YteckhdkghfidiaaDoor
set_option linter.unusedVariables false
open Go.RowKit

def Strs (w : World) (B : Nat) (A : Option Addr) (n : Nat) (ss : List ByteArray) : Prop :=
  ss.length = n ∧ Row w B A n (fun i => .string (ss.getD i ByteArray.empty))
def Wrs (w : World) (B : Nat) (A : Option Addr) (n : Nat) (ws : List (Int × ByteArray)) : Prop :=
  ws.length = n ∧ Row w B A (n * 2) (fun i => if i % 2 = 0 then .int .i64 (ws.getD (i / 2) (0, ByteArray.empty)).1 else .string (ws.getD (i / 2) (0, ByteArray.empty)).2)
theorem Strs.below {w w' : World} {B B' n : Nat} {A : Option Addr} {ss : List ByteArray} (h : Strs w B A n ss) (hb : Below B' w w') (hB : B ≤ B') : Strs w' B A n ss := ⟨h.1, h.2.below hb hB⟩
theorem Strs.more {w : World} {B B' n : Nat} {A : Option Addr} {ss : List ByteArray} (h : Strs w B A n ss) (hB : B ≤ B') : Strs w B' A n ss := ⟨h.1, h.2.more hB⟩
theorem Wrs.below {w w' : World} {B B' n : Nat} {A : Option Addr} {ws : List (Int × ByteArray)} (h : Wrs w B A n ws) (hb : Below B' w w') (hB : B ≤ B') : Wrs w' B A n ws := ⟨h.1, h.2.below hb hB⟩
theorem Wrs.more {w : World} {B B' n : Nat} {A : Option Addr} {ws : List (Int × ByteArray)} (h : Wrs w B A n ws) (hB : B ≤ B') : Wrs w B' A n ws := ⟨h.1, h.2.more hB⟩
theorem Strs.at_ {w : World} {B n k : Nat} {A : Option Addr} {ss : List ByteArray} (h : Strs w B A n ss) (hk : k < n) :
    ∃ b off, A = some ⟨b, off, none⟩ ∧ b < B ∧ w.cell? ⟨b, off + k, none⟩ = some (.string (ss.getD k ByteArray.empty)) := by
  obtain ⟨b, off, e, hb, hc⟩ := h.2 (by omega)
  exact ⟨b, off, e, hb, hc k hk⟩
theorem Wrs.at_ {w : World} {B n k : Nat} {A : Option Addr} {ws : List (Int × ByteArray)} (h : Wrs w B A n ws) (hk : k < n) :
    ∃ b off, A = some ⟨b, off, none⟩ ∧ b < B ∧ w.cell? ⟨b, off + k * 2, none⟩ = some (.int .i64 (ws.getD k (0, ByteArray.empty)).1) ∧ w.cell? ⟨b, off + k * 2 + 1, none⟩ = some (.string (ws.getD k (0, ByteArray.empty)).2) := by
  obtain ⟨b, off, e, hb, hc⟩ := h.2 (by omega)
  have h0 := hc (k * 2) (by omega)
  have h1 := hc (k * 2 + 1) (by omega)
  have e1 : (k * 2) % 2 = 0 := by omega
  have e2 : ¬ (k * 2 + 1) % 2 = 0 := by omega
  have e3 : (k * 2) / 2 = k := by omega
  have e4 : (k * 2 + 1) / 2 = k := by omega
  simp only [e1, e3, if_true] at h0
  simp only [e2, e4, if_false] at h1
  exact ⟨b, off, e, hb, h0, h1⟩

def lenS (ss : List ByteArray) : Nat := (ss.map ByteArray.size).sum
def lenW (ws : List (Int × ByteArray)) : Nat := (ws.map fun x => x.2.size).sum
def lenSTo (ss : List ByteArray) (k : Nat) : Nat := ((ss.map ByteArray.size).take k).sum
def lenWTo (ws : List (Int × ByteArray)) (k : Nat) : Nat := ((ws.map fun x => x.2.size).take k).sum
theorem lenSTo_zero (ss : List ByteArray) : lenSTo ss 0 = 0 := rfl
theorem lenWTo_zero (ws : List (Int × ByteArray)) : lenWTo ws 0 = 0 := rfl
theorem lenSTo_le (ss : List ByteArray) (k : Nat) : lenSTo ss k ≤ lenS ss := sum_take_le _ _
theorem lenWTo_le (ws : List (Int × ByteArray)) (k : Nat) : lenWTo ws k ≤ lenW ws := sum_take_le _ _
theorem lenSTo_all (ss : List ByteArray) : lenSTo ss ss.length = lenS ss := by
  unfold lenSTo lenS; rw [List.take_of_length_le (by simp)]
theorem lenWTo_all (ws : List (Int × ByteArray)) : lenWTo ws ws.length = lenW ws := by
  unfold lenWTo lenW; rw [List.take_of_length_le (by simp)]
theorem lenSTo_succ (ss : List ByteArray) (k : Nat) (h : k < ss.length) : lenSTo ss (k + 1) = lenSTo ss k + (ss.getD k ByteArray.empty).size := by
  unfold lenSTo
  rw [sum_take_succ _ _ (by simpa using h), List.getD_eq_getElem?_getD, List.getElem?_eq_getElem h]; simp
theorem lenWTo_succ (ws : List (Int × ByteArray)) (k : Nat) (h : k < ws.length) : lenWTo ws (k + 1) = lenWTo ws k + (ws.getD k (0, ByteArray.empty)).2.size := by
  unfold lenWTo
  rw [sum_take_succ _ _ (by simpa using h), List.getD_eq_getElem?_getD, List.getElem?_eq_getElem h]; simp
def strAt (ss : List ByteArray) (i : Nat) : Value := .string (ss.getD i ByteArray.empty)
def wrAt (ws : List (Int × ByteArray)) (i : Nat) : Value := if i % 2 = 0 then .int .i64 (ws.getD (i / 2) (0, ByteArray.empty)).1 else .string (ws.getD (i / 2) (0, ByteArray.empty)).2
theorem wrAt_even (ws : List (Int × ByteArray)) (k : Nat) : wrAt ws (k * 2) = .int .i64 (ws.getD k (0, ByteArray.empty)).1 := by
  unfold wrAt; rw [if_pos (by omega), show k * 2 / 2 = k by omega]
theorem wrAt_odd (ws : List (Int × ByteArray)) (k : Nat) : wrAt ws (k * 2 + 1) = .string (ws.getD k (0, ByteArray.empty)).2 := by
  unfold wrAt; rw [if_neg (by omega), show (k * 2 + 1) / 2 = k by omega]
/-- A slice's row of texts, and of writes, in a block of the call's own. -/
def OwnS (w : World) (g : Nat) (ss : List ByteArray) : Prop := Own w g 9 ss.length (strAt ss)
/-- A slice value whose elements lie in a block of the call's own, from block number lo on. -/
def SlS (w : World) (lo : Nat) (A : Option Addr) (n : Nat) (ss : List ByteArray) : Prop := ss.length = n ∧ (0 < n → ∃ g, A = some ⟨g, 0, none⟩ ∧ lo ≤ g ∧ OwnS w g ss)
theorem SlS.nil (w : World) (lo : Nat) : SlS w lo none 0 [] := ⟨rfl, fun h => absurd h (by omega)⟩
theorem SlS.nx {w w' : World} {lo n : Nat} {A : Option Addr} {ss : List ByteArray} (h : SlS w lo A n ss) (hb : Nx w w') : SlS w' lo A n ss :=
  ⟨h.1, fun hn => by obtain ⟨g, e, hl, ho⟩ := h.2 hn; exact ⟨g, e, hl, Own.nx ho hb⟩⟩
theorem SlS.low {w : World} {lo lo' n : Nat} {A : Option Addr} {ss : List ByteArray} (h : SlS w lo A n ss) (hl : lo' ≤ lo) : SlS w lo' A n ss :=
  ⟨h.1, fun hn => by obtain ⟨g, e, hl2, ho⟩ := h.2 hn; exact ⟨g, e, Nat.le_trans hl hl2, ho⟩⟩
theorem SlS.strs {w : World} {lo n : Nat} {A : Option Addr} {ss : List ByteArray} (h : SlS w lo A n ss) : Strs w w.heap.size A n ss :=
  ⟨h.1, fun hn => by
    obtain ⟨g, e, hl, ho⟩ := h.2 hn
    subst e
    have := Own.row ho (Own.lt ho)
    rw [h.1] at this
    exact this hn⟩
/-- A slice whose elements lie in a block of the call's own, its number from lo to below hi. -/
def SrS (w : World) (lo hi : Nat) (A : Option Addr) (n : Nat) (ss : List ByteArray) : Prop := ss.length = n ∧ (0 < n → ∃ g, A = some ⟨g, 0, none⟩ ∧ lo ≤ g ∧ g < hi ∧ OwnS w g ss)
theorem SlS.sr {w : World} {lo n : Nat} {A : Option Addr} {ss : List ByteArray} (h : SlS w lo A n ss) : SrS w lo w.heap.size A n ss :=
  ⟨h.1, fun hn => by obtain ⟨g, e, hl, ho⟩ := h.2 hn; exact ⟨g, e, hl, Own.lt ho, ho⟩⟩
theorem SrS.sl {w : World} {lo hi n : Nat} {A : Option Addr} {ss : List ByteArray} (h : SrS w lo hi A n ss) : SlS w lo A n ss :=
  ⟨h.1, fun hn => by obtain ⟨g, e, hl, _, ho⟩ := h.2 hn; exact ⟨g, e, hl, ho⟩⟩
theorem SrS.rg {w w' : World} {lo hi a b n : Nat} {A : Option Addr} {ss : List ByteArray} (h : SrS w lo hi A n ss) (hb : Rg a b w w') (hd : hi ≤ a ∨ b ≤ lo) : SrS w' lo hi A n ss :=
  ⟨h.1, fun hn => by obtain ⟨g, e, hl, hh, ho⟩ := h.2 hn; exact ⟨g, e, hl, hh, Own.rg ho hb (by omega)⟩⟩
theorem SrS.nx {w w' : World} {lo hi n : Nat} {A : Option Addr} {ss : List ByteArray} (h : SrS w lo hi A n ss) (hb : Nx w w') : SrS w' lo hi A n ss :=
  ⟨h.1, fun hn => by obtain ⟨g, e, hl, hh, ho⟩ := h.2 hn; exact ⟨g, e, hl, hh, Own.nx ho hb⟩⟩
/-- What a function leaves that answers a slice in new memory. -/
def RetS (w : World) (ss : List ByteArray) (e : Ending) (w' : World) : Prop := ∃ (A : Option Addr) (n c : Nat), e = .returned (.slice A n c) ∧ SlS w' w.heap.size A n ss ∧ Nx w w'
theorem RetS.mk_own {w w' : World} {g n c : Nat} {ss : List ByteArray} (hn : ss.length = n) (hg : w.heap.size ≤ g) (h : OwnS w' g ss) (hb : Nx w w') : RetS w ss (.returned (.slice (some ⟨g, 0, none⟩) n c)) w' :=
  ⟨_, n, c, rfl, ⟨hn, fun _ => ⟨g, rfl, hg, h⟩⟩, hb⟩
theorem SlS.far {w : World} {lo n : Nat} {A : Option Addr} {ss : List ByteArray} (h : SlS w lo A n ss) {p : Addr} (hp : p.block < lo) (v : Value) : SlS (w.setCell p v) lo A n ss :=
  ⟨h.1, fun hn => by obtain ⟨g, e, hl, ho⟩ := h.2 hn; exact ⟨g, e, hl, Own.far ho (by omega) v⟩⟩
section
variable {w w' : World} {lo hi : Nat} {A : Option Addr} {n c : Nat} {A2 : Option Addr} {n2 c2 : Nat} {ss : List ByteArray} {ws : List (Int × ByteArray)}
end
theorem OwnS.strs {w : World} {g B : Nat} {ss : List ByteArray} (h : OwnS w g ss) (hB : g < B) : Strs w B (some ⟨g, 0, none⟩) ss.length ss := ⟨rfl, Own.row h hB⟩
end Go.Proofs.YteckhdkghfidiaaDoor
