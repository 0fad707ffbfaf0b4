/-
  Texts of the proof, put together in their order: Rdf, Rff, Lrf, Base, Mk, Mku, Hlu, Rsu, Dok, Rd, Aas, Nws.
  Conditions: those of each.
-/
import Derived.Test.YtehahodomfbpjaaGreatDoorMl7
import Derived.StillTailTactics
import Derived.Deep.RegionHeld3
import Derived.Laws.BytesArg
import Derived.Outline
import Derived.LaidEql
import Derived.Stop.Asserts
import Derived.RowKitTokens
/- Contracts of ReadFrame, as the model and as the program have it: both answer the same frame and code. Conditions: texts of at most 1048576 bytes; the package's errors are known. -/
namespace Go.Proofs.YtehahodomfbpjaaGreatDoor
set_option linter.unusedVariables false
set_option maxRecDepth 100000
open Go.RowKit

end Go.Proofs.YtehahodomfbpjaaGreatDoor
/- Contracts of ReadFrame, as the model and as the program have it: both answer the same frame and code. Conditions: texts of at most 1048576 bytes; the package's errors are known. -/
namespace Go.Proofs.YtehahodomfbpjaaGreatDoor
set_option linter.unusedVariables false
set_option maxRecDepth 100000
open Go.RowKit

end Go.Proofs.YtehahodomfbpjaaGreatDoor
/- Contracts of the program's ReadFrame, and the walk of the law FnExactReadFrame. Conditions: the package's errors are known. -/
namespace Go.Proofs.YtehahodomfbpjaaGreatDoor
set_option linter.unusedVariables false
set_option maxRecDepth 100000
open Go.RowKit

end Go.Proofs.YtehahodomfbpjaaGreatDoor
/- Words on memory for the texts of this seat: slices of texts and of writes that are read, what a size is, and how these facts go on from world to world. Conditions: none. -/
namespace Go.Proofs.YtehahodomfbpjaaGreatDoor
set_option linter.unusedVariables false
set_option maxRecDepth 100000
open Go.RowKit

def Strs (w : World) (B : Nat) (A : Option Addr) (n : Nat) (ss : List ByteArray) : Prop :=
  ss.length = n ∧ Row w B A n (fun i => .string (ss.getD i ByteArray.empty))
def Wrs (w : World) (B : Nat) (A : Option Addr) (n : Nat) (ws : List (Int × ByteArray)) : Prop :=
  ws.length = n ∧ Row w B A (n * 2) (fun i => if i % 2 = 0 then .int .i64 (ws.getD (i / 2) (0, ByteArray.empty)).1 else .string (ws.getD (i / 2) (0, ByteArray.empty)).2)
theorem Strs.below {w w' : World} {B B' n : Nat} {A : Option Addr} {ss : List ByteArray} (h : Strs w B A n ss) (hb : Below B' w w') (hB : B ≤ B') : Strs w' B A n ss := ⟨h.1, h.2.below hb hB⟩
theorem Strs.more {w : World} {B B' n : Nat} {A : Option Addr} {ss : List ByteArray} (h : Strs w B A n ss) (hB : B ≤ B') : Strs w B' A n ss := ⟨h.1, h.2.more hB⟩
theorem Wrs.below {w w' : World} {B B' n : Nat} {A : Option Addr} {ws : List (Int × ByteArray)} (h : Wrs w B A n ws) (hb : Below B' w w') (hB : B ≤ B') : Wrs w' B A n ws := ⟨h.1, h.2.below hb hB⟩
theorem Wrs.more {w : World} {B B' n : Nat} {A : Option Addr} {ws : List (Int × ByteArray)} (h : Wrs w B A n ws) (hB : B ≤ B') : Wrs w B' A n ws := ⟨h.1, h.2.more hB⟩
theorem Strs.at_ {w : World} {B n k : Nat} {A : Option Addr} {ss : List ByteArray} (h : Strs w B A n ss) (hk : k < n) :
    ∃ b off, A = some ⟨b, off, none⟩ ∧ b < B ∧ w.cell? ⟨b, off + k, none⟩ = some (.string (ss.getD k ByteArray.empty)) := by
  obtain ⟨b, off, e, hb, hc⟩ := h.2 (by omega)
  exact ⟨b, off, e, hb, hc k hk⟩
theorem Wrs.at_ {w : World} {B n k : Nat} {A : Option Addr} {ws : List (Int × ByteArray)} (h : Wrs w B A n ws) (hk : k < n) :
    ∃ b off, A = some ⟨b, off, none⟩ ∧ b < B ∧ w.cell? ⟨b, off + k * 2, none⟩ = some (.int .i64 (ws.getD k (0, ByteArray.empty)).1) ∧ w.cell? ⟨b, off + k * 2 + 1, none⟩ = some (.string (ws.getD k (0, ByteArray.empty)).2) := by
  obtain ⟨b, off, e, hb, hc⟩ := h.2 (by omega)
  have h0 := hc (k * 2) (by omega)
  have h1 := hc (k * 2 + 1) (by omega)
  have e1 : (k * 2) % 2 = 0 := by omega
  have e2 : ¬ (k * 2 + 1) % 2 = 0 := by omega
  have e3 : (k * 2) / 2 = k := by omega
  have e4 : (k * 2 + 1) / 2 = k := by omega
  simp only [e1, e3, if_true] at h0
  simp only [e2, e4, if_false] at h1
  exact ⟨b, off, e, hb, h0, h1⟩

def lenS (ss : List ByteArray) : Nat := (ss.map ByteArray.size).sum
def lenW (ws : List (Int × ByteArray)) : Nat := (ws.map fun x => x.2.size).sum
def lenSTo (ss : List ByteArray) (k : Nat) : Nat := ((ss.map ByteArray.size).take k).sum
def lenWTo (ws : List (Int × ByteArray)) (k : Nat) : Nat := ((ws.map fun x => x.2.size).take k).sum
theorem lenSTo_zero (ss : List ByteArray) : lenSTo ss 0 = 0 := rfl
theorem lenWTo_zero (ws : List (Int × ByteArray)) : lenWTo ws 0 = 0 := rfl
theorem lenSTo_le (ss : List ByteArray) (k : Nat) : lenSTo ss k ≤ lenS ss := sum_take_le _ _
theorem lenWTo_le (ws : List (Int × ByteArray)) (k : Nat) : lenWTo ws k ≤ lenW ws := sum_take_le _ _
theorem lenSTo_all (ss : List ByteArray) : lenSTo ss ss.length = lenS ss := by
  unfold lenSTo lenS; rw [List.take_of_length_le (by simp)]
theorem lenWTo_all (ws : List (Int × ByteArray)) : lenWTo ws ws.length = lenW ws := by
  unfold lenWTo lenW; rw [List.take_of_length_le (by simp)]
theorem lenSTo_succ (ss : List ByteArray) (k : Nat) (h : k < ss.length) : lenSTo ss (k + 1) = lenSTo ss k + (ss.getD k ByteArray.empty).size := by
  unfold lenSTo
  rw [sum_take_succ _ _ (by simpa using h), List.getD_eq_getElem?_getD, List.getElem?_eq_getElem h]; simp
theorem lenWTo_succ (ws : List (Int × ByteArray)) (k : Nat) (h : k < ws.length) : lenWTo ws (k + 1) = lenWTo ws k + (ws.getD k (0, ByteArray.empty)).2.size := by
  unfold lenWTo
  rw [sum_take_succ _ _ (by simpa using h), List.getD_eq_getElem?_getD, List.getElem?_eq_getElem h]; simp
def strAt (ss : List ByteArray) (i : Nat) : Value := .string (ss.getD i ByteArray.empty)
def wrAt (ws : List (Int × ByteArray)) (i : Nat) : Value := if i % 2 = 0 then .int .i64 (ws.getD (i / 2) (0, ByteArray.empty)).1 else .string (ws.getD (i / 2) (0, ByteArray.empty)).2
theorem wrAt_even (ws : List (Int × ByteArray)) (k : Nat) : wrAt ws (k * 2) = .int .i64 (ws.getD k (0, ByteArray.empty)).1 := by
  unfold wrAt; rw [if_pos (by omega), show k * 2 / 2 = k by omega]
theorem wrAt_odd (ws : List (Int × ByteArray)) (k : Nat) : wrAt ws (k * 2 + 1) = .string (ws.getD k (0, ByteArray.empty)).2 := by
  unfold wrAt; rw [if_neg (by omega), show (k * 2 + 1) / 2 = k by omega]
/-- A slice's row of texts, and of writes, in a block of the call's own. -/
def OwnS (w : World) (g : Nat) (ss : List ByteArray) : Prop := Own w g 9 ss.length (strAt ss)
def OwnW (w : World) (g : Nat) (ws : List (Int × ByteArray)) : Prop := Own w g 123 (ws.length * 2) (wrAt ws)
/-- A slice value whose elements lie in a block of the call's own, from block number lo on. -/
def SlS (w : World) (lo : Nat) (A : Option Addr) (n : Nat) (ss : List ByteArray) : Prop := ss.length = n ∧ (0 < n → ∃ g, A = some ⟨g, 0, none⟩ ∧ lo ≤ g ∧ OwnS w g ss)
def SlW (w : World) (lo : Nat) (A : Option Addr) (n : Nat) (ws : List (Int × ByteArray)) : Prop := ws.length = n ∧ (0 < n → ∃ g, A = some ⟨g, 0, none⟩ ∧ lo ≤ g ∧ OwnW w g ws)
theorem SlS.nil (w : World) (lo : Nat) : SlS w lo none 0 [] := ⟨rfl, fun h => absurd h (by omega)⟩
theorem SlW.nil (w : World) (lo : Nat) : SlW w lo none 0 [] := ⟨rfl, fun h => absurd h (by omega)⟩
theorem SlS.nx {w w' : World} {lo n : Nat} {A : Option Addr} {ss : List ByteArray} (h : SlS w lo A n ss) (hb : Nx w w') : SlS w' lo A n ss :=
  ⟨h.1, fun hn => by obtain ⟨g, e, hl, ho⟩ := h.2 hn; exact ⟨g, e, hl, Own.nx ho hb⟩⟩
theorem SlW.nx {w w' : World} {lo n : Nat} {A : Option Addr} {ws : List (Int × ByteArray)} (h : SlW w lo A n ws) (hb : Nx w w') : SlW w' lo A n ws :=
  ⟨h.1, fun hn => by obtain ⟨g, e, hl, ho⟩ := h.2 hn; exact ⟨g, e, hl, Own.nx ho hb⟩⟩
theorem SlS.low {w : World} {lo lo' n : Nat} {A : Option Addr} {ss : List ByteArray} (h : SlS w lo A n ss) (hl : lo' ≤ lo) : SlS w lo' A n ss :=
  ⟨h.1, fun hn => by obtain ⟨g, e, hl2, ho⟩ := h.2 hn; exact ⟨g, e, Nat.le_trans hl hl2, ho⟩⟩
theorem SlW.low {w : World} {lo lo' n : Nat} {A : Option Addr} {ws : List (Int × ByteArray)} (h : SlW w lo A n ws) (hl : lo' ≤ lo) : SlW w lo' A n ws :=
  ⟨h.1, fun hn => by obtain ⟨g, e, hl2, ho⟩ := h.2 hn; exact ⟨g, e, Nat.le_trans hl hl2, ho⟩⟩
theorem SlS.strs {w : World} {lo n : Nat} {A : Option Addr} {ss : List ByteArray} (h : SlS w lo A n ss) : Strs w w.heap.size A n ss :=
  ⟨h.1, fun hn => by
    obtain ⟨g, e, hl, ho⟩ := h.2 hn
    subst e
    have := Own.row ho (Own.lt ho)
    rw [h.1] at this
    exact this hn⟩
theorem SlW.wrs {w : World} {lo n : Nat} {A : Option Addr} {ws : List (Int × ByteArray)} (h : SlW w lo A n ws) : Wrs w w.heap.size A n ws :=
  ⟨h.1, fun hn => by
    obtain ⟨g, e, hl, ho⟩ := h.2 (by omega)
    subst e
    have := Own.row ho (Own.lt ho)
    rw [h.1] at this
    exact this hn⟩
/-- A slice whose elements lie in a block of the call's own, its number from lo to below hi. -/
def SrS (w : World) (lo hi : Nat) (A : Option Addr) (n : Nat) (ss : List ByteArray) : Prop := ss.length = n ∧ (0 < n → ∃ g, A = some ⟨g, 0, none⟩ ∧ lo ≤ g ∧ g < hi ∧ OwnS w g ss)
def SrW (w : World) (lo hi : Nat) (A : Option Addr) (n : Nat) (ws : List (Int × ByteArray)) : Prop := ws.length = n ∧ (0 < n → ∃ g, A = some ⟨g, 0, none⟩ ∧ lo ≤ g ∧ g < hi ∧ OwnW w g ws)
theorem SlS.sr {w : World} {lo n : Nat} {A : Option Addr} {ss : List ByteArray} (h : SlS w lo A n ss) : SrS w lo w.heap.size A n ss :=
  ⟨h.1, fun hn => by obtain ⟨g, e, hl, ho⟩ := h.2 hn; exact ⟨g, e, hl, Own.lt ho, ho⟩⟩
theorem SlW.sr {w : World} {lo n : Nat} {A : Option Addr} {ws : List (Int × ByteArray)} (h : SlW w lo A n ws) : SrW w lo w.heap.size A n ws :=
  ⟨h.1, fun hn => by obtain ⟨g, e, hl, ho⟩ := h.2 hn; exact ⟨g, e, hl, Own.lt ho, ho⟩⟩
theorem SrS.sl {w : World} {lo hi n : Nat} {A : Option Addr} {ss : List ByteArray} (h : SrS w lo hi A n ss) : SlS w lo A n ss :=
  ⟨h.1, fun hn => by obtain ⟨g, e, hl, _, ho⟩ := h.2 hn; exact ⟨g, e, hl, ho⟩⟩
theorem SrW.sl {w : World} {lo hi n : Nat} {A : Option Addr} {ws : List (Int × ByteArray)} (h : SrW w lo hi A n ws) : SlW w lo A n ws :=
  ⟨h.1, fun hn => by obtain ⟨g, e, hl, _, ho⟩ := h.2 hn; exact ⟨g, e, hl, ho⟩⟩
theorem SrS.rg {w w' : World} {lo hi a b n : Nat} {A : Option Addr} {ss : List ByteArray} (h : SrS w lo hi A n ss) (hb : Rg a b w w') (hd : hi ≤ a ∨ b ≤ lo) : SrS w' lo hi A n ss :=
  ⟨h.1, fun hn => by obtain ⟨g, e, hl, hh, ho⟩ := h.2 hn; exact ⟨g, e, hl, hh, Own.rg ho hb (by omega)⟩⟩
theorem SrW.rg {w w' : World} {lo hi a b n : Nat} {A : Option Addr} {ws : List (Int × ByteArray)} (h : SrW w lo hi A n ws) (hb : Rg a b w w') (hd : hi ≤ a ∨ b ≤ lo) : SrW w' lo hi A n ws :=
  ⟨h.1, fun hn => by obtain ⟨g, e, hl, hh, ho⟩ := h.2 hn; exact ⟨g, e, hl, hh, Own.rg ho hb (by omega)⟩⟩
theorem SrW.ty {w w' : World} {lo hi n : Nat} {A : Option Addr} {ws : List (Int × ByteArray)} (h : SrW w lo hi A n ws) (hb : TyK 9 w w') : SrW w' lo hi A n ws :=
  ⟨h.1, fun hn => by obtain ⟨g, e, hl, hh, ho⟩ := h.2 hn; exact ⟨g, e, hl, hh, hb _ _ _ _ (by decide) ho⟩⟩
theorem SrS.ty {w w' : World} {lo hi n : Nat} {A : Option Addr} {ss : List ByteArray} (h : SrS w lo hi A n ss) (hb : TyK 123 w w') : SrS w' lo hi A n ss :=
  ⟨h.1, fun hn => by obtain ⟨g, e, hl, hh, ho⟩ := h.2 hn; exact ⟨g, e, hl, hh, hb _ _ _ _ (by decide) ho⟩⟩
theorem SrS.nx {w w' : World} {lo hi n : Nat} {A : Option Addr} {ss : List ByteArray} (h : SrS w lo hi A n ss) (hb : Nx w w') : SrS w' lo hi A n ss :=
  ⟨h.1, fun hn => by obtain ⟨g, e, hl, hh, ho⟩ := h.2 hn; exact ⟨g, e, hl, hh, Own.nx ho hb⟩⟩
theorem SrW.nx {w w' : World} {lo hi n : Nat} {A : Option Addr} {ws : List (Int × ByteArray)} (h : SrW w lo hi A n ws) (hb : Nx w w') : SrW w' lo hi A n ws :=
  ⟨h.1, fun hn => by obtain ⟨g, e, hl, hh, ho⟩ := h.2 hn; exact ⟨g, e, hl, hh, Own.nx ho hb⟩⟩
/-- What a function leaves that answers a slice in new memory. -/
def RetS (w : World) (ss : List ByteArray) (e : Ending) (w' : World) : Prop := ∃ (A : Option Addr) (n c : Nat), e = .returned (.slice A n c) ∧ SlS w' w.heap.size A n ss ∧ Nx w w'
def RetW (w : World) (ws : List (Int × ByteArray)) (e : Ending) (w' : World) : Prop := ∃ (A : Option Addr) (n c : Nat), e = .returned (.slice A n c) ∧ SlW w' w.heap.size A n ws ∧ Nx w w'
theorem RetS.mk_own {w w' : World} {g n c : Nat} {ss : List ByteArray} (hn : ss.length = n) (hg : w.heap.size ≤ g) (h : OwnS w' g ss) (hb : Nx w w') : RetS w ss (.returned (.slice (some ⟨g, 0, none⟩) n c)) w' :=
  ⟨_, n, c, rfl, ⟨hn, fun _ => ⟨g, rfl, hg, h⟩⟩, hb⟩
theorem RetW.mk_own {w w' : World} {g n c : Nat} {ws : List (Int × ByteArray)} (hn : ws.length = n) (hg : w.heap.size ≤ g) (h : OwnW w' g ws) (hb : Nx w w') : RetW w ws (.returned (.slice (some ⟨g, 0, none⟩) n c)) w' :=
  ⟨_, n, c, rfl, ⟨hn, fun _ => ⟨g, rfl, hg, h⟩⟩, hb⟩
theorem SlS.far {w : World} {lo n : Nat} {A : Option Addr} {ss : List ByteArray} (h : SlS w lo A n ss) {p : Addr} (hp : p.block < lo) (v : Value) : SlS (w.setCell p v) lo A n ss :=
  ⟨h.1, fun hn => by obtain ⟨g, e, hl, ho⟩ := h.2 hn; exact ⟨g, e, hl, Own.far ho (by omega) v⟩⟩
theorem SlW.far {w : World} {lo n : Nat} {A : Option Addr} {ws : List (Int × ByteArray)} (h : SlW w lo A n ws) {p : Addr} (hp : p.block < lo) (v : Value) : SlW (w.setCell p v) lo A n ws :=
  ⟨h.1, fun hn => by obtain ⟨g, e, hl, ho⟩ := h.2 hn; exact ⟨g, e, hl, Own.far ho (by omega) v⟩⟩
/-- What a function leaves that answers a disk in new memory. -/
def RetDisk (w : World) (ss : List ByteArray) (ws : List (Int × ByteArray)) (e : Ending) (w' : World) : Prop :=
  ∃ (A : Option Addr) (n c : Nat) (A2 : Option Addr) (n2 c2 : Nat), e = .returned (.agg #[.slice A n c, .slice A2 n2 c2]) ∧ SlS w' w.heap.size A n ss ∧ SlW w' w.heap.size A2 n2 ws ∧ Nx w w'
/-- A disk of the program's in a variable: its slices lie in blocks of the call's own from lo to below hi, the variable's box is block hi. -/
def Dk (w : World) (lo hi : Nat) (A : Option Addr) (n c : Nat) (A2 : Option Addr) (n2 c2 : Nat) (ss : List ByteArray) (ws : List (Int × ByteArray)) : Prop :=
  SrS w lo hi A n ss ∧ SrW w lo hi A2 n2 ws ∧ Box w hi 38 #[.slice A n c, .slice A2 n2 c2]
section
variable {w w' : World} {lo hi : Nat} {A : Option Addr} {n c : Nat} {A2 : Option Addr} {n2 c2 : Nat} {ss : List ByteArray} {ws : List (Int × ByteArray)}
theorem Dk.new (hS : SlS w lo A n ss) (hW : SlW w lo A2 n2 ws) : Dk (w.alloc (.cells #[.slice A n c, .slice A2 n2 c2] 38)) lo w.heap.size A n c A2 n2 c2 ss ws :=
  ⟨hS.sr.nx ((Nx.refl w).alloc _), hW.sr.nx ((Nx.refl w).alloc _), Box.new w _ _⟩
theorem Dk.nx (h : Dk w lo hi A n c A2 n2 c2 ss ws) (hb : Nx w w') : Dk w' lo hi A n c A2 n2 c2 ss ws := ⟨h.1.nx hb, h.2.1.nx hb, h.2.2.nx hb⟩
theorem Dk.rg {a b : Nat} (h : Dk w lo hi A n c A2 n2 c2 ss ws) (hb : Rg a b w w') (hd : hi < a ∨ b ≤ lo) (hlo : lo ≤ hi) : Dk w' lo hi A n c A2 n2 c2 ss ws :=
  ⟨h.1.rg hb (by omega), h.2.1.rg hb (by omega), h.2.2.rg hb (by omega)⟩
theorem Dk.c0 (h : Dk w lo hi A n c A2 n2 c2 ss ws) : w.cell? ⟨hi, 0, none⟩ = some (.slice A n c) := h.2.2.c0
theorem Dk.c1 (h : Dk w lo hi A n c A2 n2 c2 ss ws) : w.cell? ⟨hi, 1, none⟩ = some (.slice A2 n2 c2) := h.2.2.c1
theorem Dk.strs (h : Dk w lo hi A n c A2 n2 c2 ss ws) : Strs w w.heap.size A n ss := h.1.sl.strs
theorem Dk.wrs (h : Dk w lo hi A n c A2 n2 c2 ss ws) : Wrs w w.heap.size A2 n2 ws := h.2.1.sl.wrs
end
theorem OwnS.strs {w : World} {g B : Nat} {ss : List ByteArray} (h : OwnS w g ss) (hB : g < B) : Strs w B (some ⟨g, 0, none⟩) ss.length ss := ⟨rfl, Own.row h hB⟩
theorem OwnW.wrs {w : World} {g B : Nat} {ws : List (Int × ByteArray)} (h : OwnW w g ws) (hB : g < B) : Wrs w B (some ⟨g, 0, none⟩) ws.length ws := ⟨rfl, Own.row h hB⟩
end Go.Proofs.YtehahodomfbpjaaGreatDoor
/- Contracts of the laws' functions that mark disks and ask whether the marks are still there. Conditions: numbers below 2^40. -/
namespace Go.Proofs.YtehahodomfbpjaaGreatDoor
set_option linter.unusedVariables false
set_option maxRecDepth 100000
open Go.RowKit

/-- The text of one digit. -/
def dg (k : Nat) : ByteArray := strOfNums [48 + (k : Int) % 10]
theorem dg_size (k : Nat) : (dg k).size = 1 := by simp [dg, strOfNums, ByteArray.size]
def mtL (k : Nat) (o : ByteArray) : ByteArray := if h : k = 0 then o else mtL (k / 10) (dg k ++ o)
termination_by k
decreasing_by omega
theorem mtL_zero (o : ByteArray) : mtL 0 o = o := by rw [mtL]; simp
theorem mtL_pos (k : Nat) (o : ByteArray) (h : 0 < k) : mtL k o = mtL (k / 10) (dg k ++ o) := by rw [mtL, dif_neg (by omega)]
/-- The mark of a number. -/
def mt (k : Nat) : ByteArray := if k = 0 then ⟨#[109, 48]⟩ else ⟨#[109]⟩ ++ mtL k ⟨#[]⟩
def MtTo (K k : Nat) (o : ByteArray) : Prop := mtL K ⟨#[]⟩ = mtL k o

theorem MtTo.next_ {K k : Nat} {o : ByteArray} (h : MtTo K k o) (hp : 0 < k) : MtTo K (k / 10) (dg k ++ o) := by
  unfold MtTo at h ⊢; rw [h, mtL_pos k o hp]
theorem MtTo.done {K : Nat} {o : ByteArray} (h : MtTo K 0 o) (hK : 0 < K) : ⟨#[109]⟩ ++ o = mt K := by
  unfold MtTo at h
  unfold mt
  rw [if_neg (by omega), h, mtL_zero]
theorem ret_str' {a b : ByteArray} (h : a = b) : Ending.returned (.string a) = .returned (.string b) := by rw [h]
theorem conv_one (x : Int) (W : World) : (convert 58 9 (.slice (some ⟨W.heap.size, 0, none⟩) 1 1)).run Tryz.prog (W.alloc (.cells #[.int .u8 x] 5)) = .ok (.string (strOfNums [x])) (W.alloc (.cells #[.int .u8 x] 5)) :=
  run_convert_bytes_arg _ 58 5 Tryz.underlying58 Tryz.underlying5 W.heap.size 0 1 1 [x] rfl (fun i hi => by
    obtain rfl : i = 0 := by omega
    exact (Box.new W 5 #[.int .u8 x]).cell 0) 9 Tryz.underlying9

set_option maxHeartbeats 1000000 in
theorem markText_c (k : Nat) (w : World) (hk : k ≤ 1099511627776) : Calls Tryz.prog 137 #[.int .i64 k] w fun e w' => e = .returned (.string (mt k)) ∧ Nx w w' := by
  rcases Nat.eq_zero_or_pos k with hz | hp
  · subst hz
    go_enter Tryz.func137, Tryz.ntmps137
    go_wp2
    go_ret
    exact ⟨rfl, Nx.refl _⟩
  have hd : decide ((k : Int) ≤ 0) = false := by simp; omega
  have hd0 : decide (k = 0) = false := by simp; omega
  go_enter Tryz.func137, Tryz.ntmps137
  go_wp2
  go_loopw [0, 3] (fun i o wr => ∃ (j : Nat) (s : ByteArray), j ≤ k ∧ i = .int .i64 j ∧ o = .string s ∧ s.size + j ≤ k ∧ MtTo k j s ∧ Nx w wr) (fun i _ _ => (intOf i).toNat)
  case atStart => exact ⟨k, ⟨#[]⟩, Nat.le_refl _, rfl, rfl, by show 0 + k ≤ k; omega, rfl, Nx.refl _⟩
  case round =>
    obtain ⟨j, s, hj, rfl, rfl, hs, hto, hnx⟩ := hrel
    rcases Nat.eq_zero_or_pos j with hz | hp2
    · subst hz
      have HF := Lib.hid (hto.done hp)
      go_wp2
      go_ret
      exact ⟨ret_str' HF.out, hnx⟩
    · have hd2 : decide (0 < (j : Int)) = true := by simp; omega
      have hcv := conv_one (48 + (j : Int) % 10) wr
      have HF := Lib.hid (hto.next_ hp2)
      rw [show strOfNums [48 + (j : Int) % 10] = dg j from rfl] at hcv
      have HZ := Lib.hid (dg_size j)
      have hz1 : (dg j).size ≤ 1 := by rw [HZ.out]; omega
      generalize dg j = g at *
      go_wp2
      go_roundw
      case rel => exact ⟨j / 10, g ++ s, by omega, by go_num, rfl, by rw [ByteArray.size_append]; have := HZ.out; omega, HF.out, hnx.alloc _⟩
      case measure => simp [intOf]; omega

def markS (k n : Nat) : List ByteArray := (List.range n).map (fun i => mt (k + i))
def markW (k n : Nat) : List (Int × ByteArray) := (List.range n).map (fun i => (((k + i * 2 : Nat) : Int), mt (k + i * 2 + 1)))
theorem markS_len (k n : Nat) : (markS k n).length = n := by simp [markS]
theorem markW_len (k n : Nat) : (markW k n).length = n := by simp [markW]
theorem markS_at {k n i : Nat} (h : i < n) : (markS k n).getD i ByteArray.empty = mt (k + i) := by
  unfold markS; rw [List.getD_eq_getElem?_getD, List.getElem?_map, List.getElem?_range h]; rfl
theorem markW_at {k n i : Nat} (h : i < n) : (markW k n).getD i (0, ByteArray.empty) = (((k + i * 2 : Nat) : Int), mt (k + i * 2 + 1)) := by
  unfold markW; rw [List.getD_eq_getElem?_getD, List.getElem?_map, List.getElem?_range h]; rfl
/-- A slice that is being filled with marks. -/
def FillA (w : World) (lo hi : Nat) (A : Option Addr) (n : Nat) (t : TypeId) (m k : Nat) (F : Nat → Value) : Prop := 0 < n → ∃ g, A = some ⟨g, 0, none⟩ ∧ lo ≤ g ∧ g < hi ∧ Fill w g t m k F

set_option maxHeartbeats 1000000 in
theorem markStringS_c (A : Option Addr) (n c k lo hi : Nat) (ss : List ByteArray) (w : World) (h : SrS w lo hi A n ss) (hi' : hi ≤ w.heap.size) (hn : n ≤ 1048576) (hk : k ≤ 1099510579200) :
    Calls Tryz.prog 65 #[.slice A n c, .int .i64 k] w fun e w' => e = .returned (.int .i64 ((k + n : Nat) : Int)) ∧ SrS w' lo hi A n (markS k n) ∧ Rg lo hi w w' ∧ TyK 9 w w' := by
  have HS : FillA w lo hi A n 9 n 0 (strAt (markS k n)) := fun hn0 => by
    obtain ⟨g, e, h1, h2, ho⟩ := h.2 hn0
    unfold OwnS at ho
    rw [h.1] at ho
    exact ⟨g, e, h1, h2, Fill.start ho⟩
  go_enter Tryz.func65, Tryz.ntmps65
  go_wp2
  go_loopw [1, 5] (fun q i wr => ∃ j : Nat, j ≤ n ∧ i = .int .i64 j ∧ q = .int .i64 ((k + j : Nat) : Int) ∧ FillA wr lo hi A n 9 n j (strAt (markS k n)) ∧ Rg lo hi w wr ∧ TyK 9 w wr) (fun _ i _ => n - (intOf i).toNat)
  case atStart => exact ⟨0, Nat.zero_le _, rfl, rfl, HS, Rg.of_nx (Nx.refl _), TyK.refl _ _⟩
  case round =>
    obtain ⟨j, hj, rfl, rfl, hf, hrg, hty⟩ := hrel
    clear HS
    by_cases hlt : j < n
    · obtain ⟨g, rfl, hg1, hg2, hfill⟩ := hf (by omega)
      go_wp2_with fail
      refine (markText_c (k + j) _ (by omega)).mono ?_
      rintro e w1 ⟨rfl, hnx1⟩
      have hf1 := hfill.nx hnx1
      obtain ⟨v, hv⟩ := hf1.some_ hlt
      have hz := hf1.frozen j
      go_wp2
      go_roundw
      case rel =>
        refine ⟨j + 1, by omega, by go_num, by go_num, fun _ => ⟨g, rfl, hg1, hg2, hf1.step hlt ?_⟩, (hrg.trans (Rg.of_nx hnx1)).setCell hg1 hg2 _, (hty.nx hnx1).set_fill hf1 _⟩
        unfold strAt; rw [markS_at hlt]
      case measure => simp [intOf]; omega
    · obtain rfl : j = n := by omega
      go_wp2
      go_ret
      refine ⟨rfl, ⟨markS_len _ _, fun hn0 => ?_⟩, hrg, hty⟩
      obtain ⟨g, e, h1, h2, ho⟩ := hf hn0
      refine ⟨g, e, h1, h2, ?_⟩
      unfold OwnS
      rw [markS_len]
      exact ho.done

set_option maxHeartbeats 1000000 in
theorem markWriteS_c (A : Option Addr) (n c k lo hi : Nat) (ws : List (Int × ByteArray)) (w : World) (h : SrW w lo hi A n ws) (hi' : hi ≤ w.heap.size) (hn : n ≤ 1048576) (hk : k ≤ 1099500000000) :
    Calls Tryz.prog 66 #[.slice A n c, .int .i64 k] w fun e w' => e = .returned (.int .i64 ((k + n * 2 : Nat) : Int)) ∧ SrW w' lo hi A n (markW k n) ∧ Rg lo hi w w' ∧ TyK 123 w w' := by
  have HS : FillA w lo hi A n 123 (n * 2) 0 (wrAt (markW k n)) := fun hn0 => by
    obtain ⟨g, e, h1, h2, ho⟩ := h.2 hn0
    unfold OwnW at ho
    rw [h.1] at ho
    exact ⟨g, e, h1, h2, Fill.start ho⟩
  go_enter Tryz.func66, Tryz.ntmps66
  go_wp2
  go_loopw [1, 5] (fun q i wr => ∃ j : Nat, j ≤ n ∧ i = .int .i64 j ∧ q = .int .i64 ((k + j * 2 : Nat) : Int) ∧ FillA wr lo hi A n 123 (n * 2) (j * 2) (wrAt (markW k n)) ∧ Rg lo hi w wr ∧ TyK 123 w wr) (fun _ i _ => n - (intOf i).toNat)
  case atStart => exact ⟨0, Nat.zero_le _, rfl, rfl, HS, Rg.of_nx (Nx.refl _), TyK.refl _ _⟩
  case round =>
    obtain ⟨j, hj, rfl, rfl, hf, hrg, hty⟩ := hrel
    clear HS
    by_cases hlt : j < n
    · obtain ⟨g, rfl, hg1, hg2, hfill⟩ := hf (by omega)
      have hs1 := hfill.step (v := .int .i64 ((k : Int) + (j : Int) * 2)) (by omega) (by rw [wrAt_even, markW_at hlt]; go_num)
      obtain ⟨v0, hv0⟩ := hfill.some_ (i := j * 2) (by omega)
      have hz0 := hfill.frozen (j * 2)
      go_wp2_with fail
      have hr1 := hrg.setCell (p := ⟨g, j * 2, none⟩) hg1 hg2 (.int .i64 ((k : Int) + (j : Int) * 2))
      have ht1 := hty.set_fill (i := j * 2) hfill (.int .i64 ((k : Int) + (j : Int) * 2))
      generalize wr.setCell ⟨g, j * 2, none⟩ (.int .i64 ((k : Int) + (j : Int) * 2)) = w1 at *
      clear hv0 hz0 hfill
      rw [show ((k : Int) + (j : Int) * 2 + 1) = ((k + j * 2 + 1 : Nat) : Int) from by omega]
      refine (markText_c (k + j * 2 + 1) _ (by omega)).mono ?_
      rintro e w2 ⟨rfl, hnx2⟩
      have hf2 := hs1.nx hnx2
      obtain ⟨v1, hv1⟩ := hf2.some_ (i := j * 2 + 1) (by omega)
      have hz1 := hf2.frozen (j * 2 + 1)
      go_wp2
      go_roundw
      case rel =>
        refine ⟨j + 1, by omega, by go_num, by go_num, fun _ => ⟨g, rfl, hg1, hg2, ?_⟩, (hr1.trans (Rg.of_nx hnx2)).setCell hg1 hg2 _, (ht1.nx hnx2).set_fill hf2 _⟩
        rw [show (j + 1) * 2 = j * 2 + 1 + 1 by omega]
        exact hf2.step (by omega) (by rw [wrAt_odd, markW_at hlt])
      case measure => simp [intOf]; omega
    · obtain rfl : j = n := by omega
      go_wp2
      go_ret
      refine ⟨rfl, ⟨markW_len _ _, fun hn0 => ?_⟩, hrg, hty⟩
      obtain ⟨g, e, h1, h2, ho⟩ := hf hn0
      refine ⟨g, e, h1, h2, ?_⟩
      unfold OwnW
      rw [markW_len]
      exact ho.done

set_option maxHeartbeats 1000000 in
theorem markDisk_c (A A2 : Option Addr) (n c n2 c2 k lo hi : Nat) (ss : List ByteArray) (ws : List (Int × ByteArray)) (w : World) (h : SrS w lo hi A n ss) (h2 : SrW w lo hi A2 n2 ws) (hi' : hi ≤ w.heap.size) (hn : n ≤ 1048576) (hn2 : n2 ≤ 1048576) (hk : k ≤ 1048576) :
    Calls Tryz.prog 16 #[.agg #[.slice A n c, .slice A2 n2 c2], .int .i64 k] w fun e w' => e = .returned (.int .i64 ((k + n + n2 * 2 : Nat) : Int)) ∧ SrS w' lo hi A n (markS k n) ∧ SrW w' lo hi A2 n2 (markW (k + n) n2) ∧ Rg lo hi w w' := by
  go_enter Tryz.func16, Tryz.ntmps16
  go_wp2_with fail
  have b0 := Box.new w 38 #[.slice A n c, .slice A2 n2 c2]
  have hnx0 := (Nx.refl w).alloc (.cells #[.slice A n c, .slice A2 n2 c2] 38)
  have HZ := Lib.hid (show (w.alloc (.cells #[.slice A n c, .slice A2 n2 c2] 38)).heap.size = w.heap.size + 1 by simp)
  generalize w.alloc (.cells #[.slice A n c, .slice A2 n2 c2] 38) = W at *
  refine (markStringS_c A n c k lo hi ss _ (h.nx hnx0) (by have := HZ.out; omega) hn (by omega)).mono ?_
  rintro e w1 ⟨rfl, hS1, hr1, ht1⟩
  have b1 := b0.rg hr1 (.inr hi')
  have c1 := b1.c1
  have c0 := b1.c0
  have hsz1 := hr1.size
  go_wp2_with fail
  rw [show ((k : Int) + (n : Int)) = ((k + n : Nat) : Int) from by omega]
  refine (markWriteS_c A2 n2 c2 (k + n) lo hi ws _ ((h2.nx hnx0).ty ht1) (by have := HZ.out; omega) hn2 (by omega)).mono ?_
  rintro e w2 ⟨rfl, hW2, hr2, ht2⟩
  go_wp2
  go_ret
  exact ⟨rfl, hS1.ty ht2, hW2, ((Rg.of_nx hnx0).trans hr1).trans hr2⟩

end Go.Proofs.YtehahodomfbpjaaGreatDoor
/- Contracts of the laws' functions that mark supers and ask whether the marks are still there. Conditions: numbers below 2^40. -/
namespace Go.Proofs.YtehahodomfbpjaaGreatDoor
set_option linter.unusedVariables false
set_option maxRecDepth 100000
open Go.RowKit

def markM (k n : Nat) : List Mrk := (List.range n).map (fun i => (mt (k + i * 2), ((k + i * 2 + 1 : Nat) : Int)))
theorem markM_at {k n i : Nat} (h : i < n) : (markM k n).getD i mrZ = (mt (k + i * 2), ((k + i * 2 + 1 : Nat) : Int)) := by
  unfold markM; rw [List.getD_eq_getElem?_getD, List.getElem?_map, List.getElem?_range h]; rfl
set_option maxHeartbeats 1000000 in
theorem markMarkS_c (A : Option Addr) (n c k lo hi : Nat) (f : Nat → Value) (w : World) (h : Sr w lo hi A 199 (n * 2) f) (hi' : hi ≤ w.heap.size) (hn : n ≤ 1048576) (hk : k ≤ 1099500000000) :
    Calls Tryz.prog 138 #[.slice A n c, .int .i64 k] w fun e w' => e = .returned (.int .i64 ((k + n * 2 : Nat) : Int)) ∧ Sr w' lo hi A 199 (n * 2) (mrAt (markM k n)) ∧ Rg lo hi w w' ∧ TyK 199 w w' := by
  have HS : FillA w lo hi A n 199 (n * 2) 0 (mrAt (markM k n)) := fun hn0 => by
    obtain ⟨g, e, h1, h2, ho⟩ := h (by omega)
    exact ⟨g, e, h1, h2, Fill.start ho⟩
  go_enter Tryz.func138, Tryz.ntmps138
  go_wp2
  go_loopw [1, 5] (fun q i wr => ∃ j : Nat, j ≤ n ∧ i = .int .i64 j ∧ q = .int .i64 ((k + j * 2 : Nat) : Int) ∧ FillA wr lo hi A n 199 (n * 2) (j * 2) (mrAt (markM k n)) ∧ Rg lo hi w wr ∧ TyK 199 w wr) (fun _ i _ => n - (intOf i).toNat)
  case atStart => exact ⟨0, Nat.zero_le _, rfl, rfl, HS, Rg.of_nx (Nx.refl _), TyK.refl _ _⟩
  case round =>
    obtain ⟨j, hj, rfl, rfl, hf, hrg, hty⟩ := hrel
    clear HS
    by_cases hlt : j < n
    · obtain ⟨g, rfl, hg1, hg2, hfill⟩ := hf (by omega)
      go_wp2_with fail
      refine (markText_c (k + j * 2) _ (by omega)).mono ?_
      rintro e w2 ⟨rfl, hnx2⟩
      have hf2 := hfill.nx hnx2
      obtain ⟨v0, hv0⟩ := hf2.some_ (i := j * 2) (by omega)
      obtain ⟨v1, hv1⟩ := hf2.some_ (i := j * 2 + 1) (by omega)
      have hz0 := hf2.frozen (j * 2)
      have hz1 := hf2.frozen (j * 2 + 1)
      have hs1 := hf2.step (v := .string (mt (k + j * 2))) (by omega) (by rw [mrAt0, markM_at hlt])
      have hs2 := hs1.step (v := .int .i64 ((k + j * 2 + 1 : Nat) : Int)) (by omega) (by rw [mrAt1, markM_at hlt])
      have hr2 := ((hrg.trans (Rg.of_nx hnx2)).setCell (p := ⟨g, j * 2, none⟩) hg1 hg2 (.string (mt (k + j * 2)))).setCell (p := ⟨g, j * 2 + 1, none⟩) hg1 hg2 (.int .i64 ((k + j * 2 + 1 : Nat) : Int))
      have ht2 := ((hty.nx hnx2).set_fill (i := j * 2) hf2 (.string (mt (k + j * 2)))).set_fill (i := j * 2 + 1) hs1 (.int .i64 ((k + j * 2 + 1 : Nat) : Int))
      have e1 : (((k + j * 2 + 1 : Nat) : Int)) = (k : Int) + (j : Int) * 2 + 1 := by omega
      rw [e1] at hs2 hr2 ht2
      clear e1
      go_wp2
      go_roundw
      case rel =>
        refine ⟨j + 1, by omega, by go_num, by go_num, fun _ => ⟨g, rfl, hg1, hg2, ?_⟩, ?_, ?_⟩
        · rw [show (j + 1) * 2 = j * 2 + 1 + 1 by omega]
          exact hs2
        · exact hr2
        · exact ht2
      case measure => simp [intOf]; omega
    · obtain rfl : j = n := by omega
      go_wp2
      go_ret
      refine ⟨rfl, fun hn0 => ?_, hrg, hty⟩
      obtain ⟨g, e, h1, h2, ho⟩ := hf (by omega)
      exact ⟨g, e, h1, h2, ho.done⟩
set_option maxHeartbeats 1000000 in
/-- The marks come behind the table, so their block is not the table's: it holds another type. -/
theorem markIntT_c (A : Option Addr) (n c k lo hi : Nat) (f : Nat → Value) (w : World) (h : Sr w lo hi A 3 n f) (hn : n ≤ 1048576) (hk : k ≤ 4194304) :
    Calls Tryz.prog 69 #[.slice A n c, .int .i64 k] w fun e w' => e = .returned (.int .i64 ((k + n : Nat) : Int)) ∧ Sr w' lo hi A 3 n (mkAt k) ∧ Rg lo hi w w' ∧ TyK 3 w w' := by
  have HS : FillI w lo hi A n 0 k := fun hn0 => by
    obtain ⟨g, e, h1, h2, ho⟩ := h (by omega)
    exact ⟨g, e, h1, h2, Fill.start ho⟩
  go_enter Tryz.func69, Tryz.ntmps69
  go_wp2
  go_loopw [1, 5] (fun q i wr => ∃ j : Nat, j ≤ n ∧ i = .int .i64 j ∧ q = .int .i64 ((k + j : Nat) : Int) ∧ FillI wr lo hi A n j k ∧ Rg lo hi w wr ∧ TyK 3 w wr) (fun _ i _ => n - (intOf i).toNat)
  case atStart => exact ⟨0, Nat.zero_le _, rfl, rfl, HS, Rg.of_nx (Nx.refl _), TyK.refl _ _⟩
  case round =>
    obtain ⟨j, hj, rfl, rfl, hf, hrg, hty⟩ := hrel
    clear HS
    by_cases hlt : j < n
    · obtain ⟨g, rfl, hg1, hg2, hfill⟩ := hf (by omega)
      obtain ⟨v0, hv0⟩ := hfill.some_ (i := j) (by omega)
      have hz0 := hfill.frozen j
      clear hf
      go_wp2
      go_roundw
      case rel => exact ⟨j + 1, by omega, by go_num, by go_num, fun _ => ⟨g, rfl, hg1, hg2, hfill.step hlt rfl⟩, hrg.setCell hg1 hg2 _, hty.set_fill hfill _⟩
      case measure => simp [intOf]; omega
    · obtain rfl : j = n := by omega
      go_wp2
      go_ret
      refine ⟨rfl, fun hn0 => ?_, hrg, hty⟩
      obtain ⟨g, e, h1, h2, ho⟩ := hf (by omega)
      exact ⟨g, e, h1, h2, ho.done⟩
set_option maxHeartbeats 1000000 in
theorem markSuper_c (g b p t : Int) (A A2 : Option Addr) (n c n2 c2 k lo hi : Nat) (f f2 : Nat → Value) (w : World) (h : Sr w lo hi A 3 n f) (h2 : Sr w lo hi A2 199 (n2 * 2) f2) (hi' : hi ≤ w.heap.size) (hn : n ≤ 1048576) (hn2 : n2 ≤ 1048576) (hk : k ≤ 4194304) :
    Calls Tryz.prog 67 #[.agg #[.int .i64 g, .int .i64 b, .int .i64 p, .int .i64 t, .slice A n c, .slice A2 n2 c2], .int .i64 k] w fun e w' => e = .returned (.int .i64 ((k + n + n2 * 2 : Nat) : Int)) ∧ Sr w' lo hi A 3 n (mkAt k) ∧ Sr w' lo hi A2 199 (n2 * 2) (mrAt (markM (k + n) n2)) ∧ Rg lo hi w w' := by
  go_enter Tryz.func67, Tryz.ntmps67
  go_wp2_with fail
  have b0 := Box.new w 30 #[.int .i64 g, .int .i64 b, .int .i64 p, .int .i64 t, .slice A n c, .slice A2 n2 c2]
  have hnx0 := (Nx.refl w).alloc (.cells #[.int .i64 g, .int .i64 b, .int .i64 p, .int .i64 t, .slice A n c, .slice A2 n2 c2] 30)
  have HZ := Lib.hid (show (w.alloc (.cells #[.int .i64 g, .int .i64 b, .int .i64 p, .int .i64 t, .slice A n c, .slice A2 n2 c2] 30)).heap.size = w.heap.size + 1 by simp)
  generalize w.alloc (.cells #[.int .i64 g, .int .i64 b, .int .i64 p, .int .i64 t, .slice A n c, .slice A2 n2 c2] 30) = W at *
  refine (markIntT_c A n c k lo hi f _ (h.nx hnx0) hn hk).mono ?_
  rintro e w1 ⟨rfl, hS1, hr1, ht1⟩
  have b1 := b0.rg hr1 (.inr hi')
  obtain ⟨_, _, _, _, c4, c5⟩ := b1.d6
  have hsz1 := hr1.size
  go_wp2_with fail
  rw [show ((k : Int) + (n : Int)) = ((k + n : Nat) : Int) from by omega]
  refine (markMarkS_c A2 n2 c2 (k + n) lo hi f2 _ ((h2.nx hnx0).ty ht1 (by decide)) (by have := HZ.out; omega) hn2 (by omega)).mono ?_
  rintro e w2 ⟨rfl, hW2, hr2, ht2⟩
  go_wp2
  go_ret
  exact ⟨rfl, hS1.ty ht2 (by decide), hW2, ((Rg.of_nx hnx0).trans hr1).trans hr2⟩
end Go.Proofs.YtehahodomfbpjaaGreatDoor
/- Contracts of the laws' functions that ask whether a super's marks are still there. Conditions: numbers below 2^40. -/
namespace Go.Proofs.YtehahodomfbpjaaGreatDoor
set_option linter.unusedVariables false
set_option maxRecDepth 100000
open Go.RowKit

set_option maxHeartbeats 1000000 in
theorem heldMarkS_c (A : Option Addr) (n c k B : Nat) (w : World) (h : Row w B A (n * 2) (mrAt (markM k n))) (hB : B ≤ w.heap.size) (hn : n ≤ 1048576) (hk : k ≤ 1099500000000) :
    Calls Tryz.prog 140 #[.slice A n c, .int .i64 k] w fun e w' => e = .returned (.int .i64 ((k + n * 2 : Nat) : Int)) ∧ Nx w w' := by
  go_enter Tryz.func140, Tryz.ntmps140
  go_wp2
  go_loopw [1, 5] (fun q i wr => ∃ j : Nat, j ≤ n ∧ i = .int .i64 j ∧ q = .int .i64 ((k + j * 2 : Nat) : Int) ∧ Nx w wr) (fun _ i _ => n - (intOf i).toNat)
  case atStart => exact ⟨0, Nat.zero_le _, rfl, rfl, Nx.refl _⟩
  case round =>
    obtain ⟨j, hj, rfl, rfl, hnx⟩ := hrel
    by_cases hlt : j < n
    · obtain ⟨b, off, rfl, hb, hrow⟩ := (h.below hnx hB) (by omega)
      have hc := hrow (j * 2) (by omega)
      have hd := hrow (j * 2 + 1) (by omega)
      rw [mrAt0, markM_at hlt] at hc
      rw [mrAt1, markM_at hlt, ← Nat.add_assoc] at hd
      dsimp only at hc hd
      have hbw : b < wr.heap.size := Nat.lt_of_lt_of_le (Nat.lt_of_lt_of_le hb hB) hnx.size
      obtain ⟨q, Hq⟩ : ∃ q, Hid (k + j * 2 = q) := ⟨_, rfl⟩
      have hq9 : q ≤ 1099511000000 := by have := Hq.out; omega
      rw [Hq.out] at hc hd ⊢
      have hd' : wr.cell? ⟨b, off + j * 2 + 1, none⟩ = some (.int .i64 ((q : Int) + 1)) := by rw [hd]; rfl
      replace hd := hd'
      clear hrow hd'
      go_wp2_with fail
      refine wp_region_lex [false, false, false, false, false, false, true, false] (fun w' => w'.cell? ⟨b, off + j * 2, none⟩ = some (.string (mt q))) (by kernel_rfl) (by kernel_rfl) rfl (by kernel_rfl) (fun _ _ d _ _ h => by cases d <;> exact h) (by exact hc) ?_
      repeat (first | (refine HL.take (v := ?_) (by rfl) ?_ ?_; rotate_left; (· (intro w hSw; (try dsimp only at hSw); go_simp; try with_reducible rfl)); (try simp only [Act.put, List.setIfInBounds_toArray, List.set_cons_zero, List.set_cons_succ])) | (refine HL.skip (by rfl) ?_; (try simp only [Act.put, List.setIfInBounds_toArray, List.set_cons_zero, List.set_cons_succ])))
      refine HL.call (by rfl) (fun K hK => ?_)
      go_simp
      refine (markText_c q _ (by omega)).mono ?_; rintro e w1 ⟨rfl, hnx1⟩; have k0 := ((Nx.drew_r hnx1).cell (p := ⟨b, off + j * 2, none⟩) hbw).trans hc; have k1 := ((Nx.drew_r hnx1).cell (p := ⟨b, off + j * 2 + 1, none⟩) hbw).trans hd
      go_wp2_with fail
      refine hK.out _ _ (by exact k0) ?_
      clear hK K
      try simp only [Act.put, List.setIfInBounds_toArray, List.set_cons_zero, List.set_cons_succ]
      repeat (first | (refine HL.take (v := ?_) (by rfl) ?_ ?_; rotate_left; (· (intro w hSw; (try dsimp only at hSw); go_simp; try with_reducible rfl)); (try simp only [Act.put, List.setIfInBounds_toArray, List.set_cons_zero, List.set_cons_succ])) | (refine HL.skip (by rfl) ?_; (try simp only [Act.put, List.setIfInBounds_toArray, List.set_cons_zero, List.set_cons_succ])))
      refine HL.done ?_
      clear hc hd
      go_wp2
      go_roundw
      case rel => exact ⟨j + 1, by omega, by go_num, by rw [show k + (j + 1) * 2 = q + 1 + 1 by have := Hq.out; omega]; go_num, hnx.trans (Nx.drew_r hnx1)⟩
      case measure => simp [intOf]; omega
    · obtain rfl : j = n := by omega
      go_wp2
      go_ret
      exact ⟨rfl, hnx⟩
set_option maxHeartbeats 1000000 in
theorem heldSuper_c (g b p t : Int) (A A2 : Option Addr) (n c n2 c2 k B : Nat) (w : World) (h : Row w B A n (mkAt k)) (h2 : Row w B A2 (n2 * 2) (mrAt (markM (k + n) n2))) (hB : B ≤ w.heap.size) (hn : n ≤ 1048576) (hn2 : n2 ≤ 1048576) (hk : k ≤ 1048576) :
    Calls Tryz.prog 70 #[.agg #[.int .i64 g, .int .i64 b, .int .i64 p, .int .i64 t, .slice A n c, .slice A2 n2 c2], .int .i64 k] w fun e w' => e = .returned (.int .i64 ((k + n + n2 * 2 : Nat) : Int)) ∧ Nx w w' := by
  go_enter Tryz.func70, Tryz.ntmps70
  go_wp2_with fail
  have b0 := Box.new w 30 #[.int .i64 g, .int .i64 b, .int .i64 p, .int .i64 t, .slice A n c, .slice A2 n2 c2]
  have hnx0 := (Nx.refl w).alloc (.cells #[.int .i64 g, .int .i64 b, .int .i64 p, .int .i64 t, .slice A n c, .slice A2 n2 c2] 30)
  generalize w.alloc (.cells #[.int .i64 g, .int .i64 b, .int .i64 p, .int .i64 t, .slice A n c, .slice A2 n2 c2] 30) = W at *
  refine (heldIntS_c A n c k B _ (h.below hnx0 hB) hn hk).mono ?_
  rintro e w1 ⟨rfl, rfl⟩
  obtain ⟨_, _, _, _, c4, c5⟩ := b0.d6
  have hd1 : decide (((k + n : Nat) : Int) < 0) = false := by simp; omega
  have hd2 : decide (((k + n + n2 * 2 : Nat) : Int) < 0) = false := by simp; omega
  obtain ⟨q, Hq⟩ : ∃ q, Hid (k + n = q) := ⟨_, rfl⟩
  have hq9 : q ≤ 3000000 := by have := Hq.out; omega
  rw [Hq.out] at hd1 h2 hd2 ⊢
  go_wp2_with fail
  refine (heldMarkS_c A2 n2 c2 q B _ (h2.below hnx0 hB) (Nat.le_trans hB hnx0.size) hn2 (by omega)).mono ?_
  rintro e w2 ⟨rfl, hnx2⟩
  obtain ⟨r, Hr⟩ : ∃ r, Hid (q + n2 * 2 = r) := ⟨_, rfl⟩
  rw [Hr.out] at hd2 ⊢
  go_wp2
  go_ret
  exact ⟨ret_int (by have := Hr.out; have := Hq.out; omega), hnx0.trans hnx2⟩
end Go.Proofs.YtehahodomfbpjaaGreatDoor
/- Contracts of ReadSuper, as the model and as the program have it, and the walk of the law FnExactReadSuper. Conditions: the package's errors are known; the library's variable MaxLen holds a number. -/
namespace Go.Proofs.YtehahodomfbpjaaGreatDoor
set_option linter.unusedVariables false
set_option maxRecDepth 100000
open Go.RowKit

def RetRU (w : World) (t : ByteArray) (e : Ending) (w' : World) : Prop :=
  Nx w w' ∧ ∃ A c A2 c2, e = .returned (.tuple #[.agg #[.int .i64 (suA t).1, .int .i64 (suA t).2.1, .int .i64 (suA t).2.2.1, .int .i64 (suA t).2.2.2.1, .slice A (suA t).2.2.2.2.1.length c, .slice A2 (suA t).2.2.2.2.2.length c2], .int .i64 (suC t)]) ∧
    (suA t).2.2.2.2.1.length ≤ c ∧ SlI w' w.heap.size A (suA t).2.2.2.2.1 ∧ SlM w' w.heap.size A2 (suA t).2.2.2.2.2
theorem RetRU.un {w w' : World} {t : ByteArray} {e : Ending} {g b p q : Int} {xs : List Int} {ms : List Mrk} {cd : Int} (h : RetRU w t e w') (hq : suA t = (g, b, p, q, xs, ms)) (hc : suC t = cd) :
    Nx w w' ∧ ∃ A c A2 c2, e = .returned (.tuple #[.agg #[.int .i64 g, .int .i64 b, .int .i64 p, .int .i64 q, .slice A xs.length c, .slice A2 ms.length c2], .int .i64 cd]) ∧ xs.length ≤ c ∧ SlI w' w.heap.size A xs ∧ SlM w' w.heap.size A2 ms := by
  unfold RetRU at h; rw [hq, hc] at h; exact h
theorem RetRU.mk {w w' : World} {t : ByteArray} {g b p q : Int} {xs : List Int} {ms : List Mrk} {cd : Int} {c c2 : Nat} {A A2 : Option Addr} (hq : suA t = (g, b, p, q, xs, ms) ∧ suC t = cd) (hc : xs.length ≤ c) (hs : SlI w' w.heap.size A xs) (hm : SlM w' w.heap.size A2 ms) (hn : Nx w w') :
    RetRU w t (.returned (.tuple #[.agg #[.int .i64 g, .int .i64 b, .int .i64 p, .int .i64 q, .slice A xs.length c, .slice A2 ms.length c2], .int .i64 cd])) w' := by
  unfold RetRU; rw [hq.1, hq.2]; exact ⟨hn, A, c, A2, c2, rfl, hc, hs, hm⟩
theorem SlI.nil {w : World} {lo : Nat} : SlI w lo none [] := fun h => absurd h (by simp)
theorem SlM.nil {w : World} {lo : Nat} : SlM w lo none [] := fun h => absurd h (by simp)
theorem RetRU.zero {w w' : World} {t : ByteArray} {cd : Int} (hq : suA t = zU ∧ suC t = cd) (hn : Nx w w') :
    RetRU w t (.returned (.tuple #[.agg #[.int .i64 0, .int .i64 0, .int .i64 0, .int .i64 0, .slice none 0 0, .slice none 0 0], .int .i64 cd])) w' := RetRU.mk (g := 0) (b := 0) (p := 0) (q := 0) (xs := []) (ms := []) hq (Nat.le_refl _) SlI.nil SlM.nil hn
end Go.Proofs.YtehahodomfbpjaaGreatDoor
/- Contracts of DiskOK, as the model and as the program have it: both answer the same bool of what the disk holds. Conditions: the disk can be read, and holds at most 1048576 elements of a kind. -/
namespace Go.Proofs.YtehahodomfbpjaaGreatDoor
set_option linter.unusedVariables false
set_option maxRecDepth 100000
open Go.RowKit

def secB (a : Int) : Bool := decide (0 ≤ a) && decide (a ≤ 63)
def sOk (s : ByteArray) : Bool := decide (s.size ≤ 300)
def wOk (x : Int × ByteArray) : Bool := secB x.1 && sOk x.2
def diskB (ss : List ByteArray) (ws : List (Int × ByteArray)) : Bool := (ss.length == 64) && decide (ws.length ≤ 80) && ss.all sOk && ws.all wOk

/-- The first k elements of a list pass. -/
def AllTo {α : Type} (p : α → Bool) (l : List α) (k : Nat) : Prop := (l.take k).all p = true
theorem AllTo.zero {α : Type} (p : α → Bool) (l : List α) : AllTo p l 0 := by simp [AllTo]
theorem AllTo.succ {α : Type} {p : α → Bool} {l : List α} {k : Nat} {d x : α} (h : AllTo p l k) (hk : k < l.length) (hx : l.getD k d = x) (hp : p x = true) : AllTo p l (k + 1) := by
  unfold AllTo at h ⊢
  rw [List.take_succ_eq_append_getElem hk, List.all_append, h]
  have : l[k] = x := by rw [← hx, List.getD_eq_getElem?_getD, List.getElem?_eq_getElem hk]; rfl
  simp [this, hp]
theorem AllTo.all {α : Type} {p : α → Bool} {l : List α} {k : Nat} (h : AllTo p l k) (hk : l.length = k) : l.all p = true := by
  unfold AllTo at h
  rwa [List.take_of_length_le (by omega)] at h
theorem all_no {α : Type} {p : α → Bool} {l : List α} {k : Nat} {d x : α} (hk : k < l.length) (hx : l.getD k d = x) (hp : p x = false) : l.all p = false := by
  rw [List.all_eq_false]
  refine ⟨l[k], List.getElem_mem hk, ?_⟩
  have : l[k] = x := by rw [← hx, List.getD_eq_getElem?_getD, List.getElem?_eq_getElem hk]; rfl
  rw [this, hp]; simp
theorem diskB_len {ss : List ByteArray} {ws : List (Int × ByteArray)} (h : ss.length ≠ 64 ∨ 80 < ws.length) : false = diskB ss ws := by
  unfold diskB
  rcases h with h | h
  · rw [beq_eq_false_iff_ne.2 h]; rfl
  · rw [decide_eq_false (p := ws.length ≤ 80) (by omega)]; simp
theorem diskB_s {ss : List ByteArray} {ws : List (Int × ByteArray)} (h : ss.all sOk = false) : false = diskB ss ws := by
  unfold diskB; rw [h]; simp
theorem diskB_w {ss : List ByteArray} {ws : List (Int × ByteArray)} (h : ws.all wOk = false) : false = diskB ss ws := by
  unfold diskB; rw [h]; simp
theorem diskB_yes {ss : List ByteArray} {ws : List (Int × ByteArray)} (h1 : ss.length = 64) (h2 : ws.length ≤ 80) (h3 : ss.all sOk = true) (h4 : ws.all wOk = true) : true = diskB ss ws := by
  unfold diskB; rw [h3, h4, h1]; simp [h2]
theorem diskB_len64 {ss : List ByteArray} {ws : List (Int × ByteArray)} (h : diskB ss ws = true) : ss.length = 64 ∧ ws.length ≤ 80 ∧ ss.all sOk = true ∧ ws.all wOk = true := by
  unfold diskB at h
  simp only [Bool.and_eq_true, beq_iff_eq, decide_eq_true_eq] at h
  exact ⟨h.1.1.1, h.1.1.2, h.1.2, h.2⟩

set_option maxHeartbeats 1000000 in
theorem l01In_d (a lo hi : Int) (w : World) : Calls Tryz.prog 124 #[.int .i64 a, .int .i64 lo, .int .i64 hi] w fun e w' => e = .returned (.bool (decide (lo ≤ a) && decide (a ≤ hi))) ∧ w = w' := by
  go_enter Tryz.func124, Tryz.ntmps124
  go_wp2
  all_goals (go_ret; refine ⟨ret_bool ?_, rfl⟩; rw [Bool.eq_iff_iff]; simp; try omega)

set_option maxHeartbeats 1000000 in
theorem specDiskOK_c (A A2 : Option Addr) (n c n2 c2 B : Nat) (ss : List ByteArray) (ws : List (Int × ByteArray)) (w : World) (h : Strs w B A n ss) (h2 : Wrs w B A2 n2 ws) (hB : B ≤ w.heap.size) (hn : n ≤ 1048576) (hn2 : n2 ≤ 1048576) :
    Calls Tryz.prog 54 #[.agg #[.slice A n c, .slice A2 n2 c2]] w fun e w' => e = .returned (.bool (diskB ss ws)) ∧ Nx w w' := by
  by_cases hl : n = 64
  case neg =>
    have h0 : ((n : Int) != 64) = true := by rw [bne_iff_ne]; omega
    have HF := Lib.hid (diskB_len (ss := ss) (ws := ws) (.inl (by rw [h.1]; exact hl)))
    go_enter Tryz.func54, Tryz.ntmps54
    go_wp2
    go_ret
    exact ⟨ret_bool HF.out, (Nx.refl _).alloc _⟩
  subst hl
  by_cases hl2 : n2 ≤ 80
  case neg =>
    have h0 : decide (80 < (n2 : Int)) = true := by simp; omega
    have HF := Lib.hid (diskB_len (ss := ss) (ws := ws) (.inr (by rw [h2.1]; omega)))
    go_enter Tryz.func54, Tryz.ntmps54
    go_wp2
    go_ret
    exact ⟨ret_bool HF.out, (Nx.refl _).alloc _⟩
  have h0 : decide (80 < (n2 : Int)) = false := by simp; omega
  go_enter Tryz.func54, Tryz.ntmps54
  go_wp2
  go_loop [3] (fun i => ∃ k : Nat, k ≤ 64 ∧ i = .int .i64 k ∧ AllTo sOk ss k) (fun i => 64 - (intOf i).toNat)
  case atStart => exact ⟨0, Nat.zero_le _, rfl, AllTo.zero _ _⟩
  case round =>
    obtain ⟨k, hk, rfl, hto⟩ := hrel
    by_cases hlt : k < 64
    · obtain ⟨b, off, rfl, hb, hc⟩ := (h.below ((Nx.refl w).alloc (.cells #[.slice A 64 c, .slice A2 n2 c2] 38)) hB).at_ hlt
      obtain ⟨s, Hs⟩ : ∃ s, Hid (ss.getD k ByteArray.empty = s) := ⟨_, rfl⟩
      rw [Hs.out] at hc
      have hkl : k < ss.length := by rw [h.1]; exact hlt
      by_cases hs : s.size ≤ 300
      · have h3 : decide (300 < (s.size : Int)) = false := by simp; omega
        go_wp2
        go_round
        case rel => exact ⟨k + 1, by omega, by go_num, hto.succ hkl Hs.out (by simp [sOk, hs])⟩
        case measure => simp [intOf]; omega
      · have h3 : decide (300 < (s.size : Int)) = true := by simp; omega
        have HF := Lib.hid (diskB_s (ws := ws) (all_no hkl Hs.out (p := sOk) (by simp [sOk]; omega)))
        go_wp2
        go_ret
        exact ⟨ret_bool HF.out, (Nx.refl _).alloc _⟩
    · obtain rfl : k = 64 := by omega
      have hall := Lib.hid (hto.all h.1)
      clear hto
      go_wp2
      go_loop [4] (fun i => ∃ k : Nat, k ≤ n2 ∧ i = .int .i64 k ∧ AllTo wOk ws k) (fun i => n2 - (intOf i).toNat)
      case atStart => exact ⟨0, Nat.zero_le _, rfl, AllTo.zero _ _⟩
      case round =>
        obtain ⟨k, hk, rfl, hto⟩ := hrel
        by_cases hlt : k < n2
        · obtain ⟨b, off, rfl, hb, hc, hd⟩ := (h2.below ((Nx.refl w).alloc (.cells #[.slice A 64 c, .slice A2 n2 c2] 38)) hB).at_ hlt
          obtain ⟨⟨a, s⟩, Hs⟩ : ∃ s, Hid (ws.getD k (0, ByteArray.empty) = s) := ⟨_, rfl⟩
          rw [Hs.out] at hc hd
          have hkl : k < ws.length := by rw [h2.1]; exact hlt
          cases hsec : secB a with
          | false =>
            have HF := Lib.hid (diskB_w (ss := ss) (all_no hkl Hs.out (p := wOk) (by simp [wOk, hsec])))
            have hsec' : (decide (0 ≤ a) && decide (a ≤ 63)) = false := hsec
            have HS := Lib.hid hsec'
            clear hsec hsec'
            go_wp2_with (go_at_call 124; refine (l01In_d a 0 63 _).mono ?_; rintro e w' ⟨rfl, rfl⟩; rw [HS.out])
            go_ret
            exact ⟨ret_bool HF.out, (Nx.refl _).alloc _⟩
          | true =>
            have hsec' : (decide (0 ≤ a) && decide (a ≤ 63)) = true := hsec
            have HS := Lib.hid hsec'
            have HSec := Lib.hid hsec
            clear hsec hsec'
            by_cases hs : s.size ≤ 300
            · have h3 : decide (300 < (s.size : Int)) = false := by simp; omega
              go_wp2_with (go_at_call 124; refine (l01In_d a 0 63 _).mono ?_; rintro e w' ⟨rfl, rfl⟩; rw [HS.out])
              go_round
              case rel => exact ⟨k + 1, by omega, by go_num, hto.succ hkl Hs.out (by simp [wOk, HSec.out, sOk, hs])⟩
              case measure => simp [intOf]; omega
            · have h3 : decide (300 < (s.size : Int)) = true := by simp; omega
              have HF := Lib.hid (diskB_w (ss := ss) (all_no hkl Hs.out (p := wOk) (by simp [wOk, sOk]; omega)))
              go_wp2_with (go_at_call 124; refine (l01In_d a 0 63 _).mono ?_; rintro e w' ⟨rfl, rfl⟩; rw [HS.out])
              go_ret
              exact ⟨ret_bool HF.out, (Nx.refl _).alloc _⟩
        · obtain rfl : k = n2 := by omega
          have hall2 := Lib.hid (hto.all h2.1)
          go_wp2
          go_ret
          exact ⟨ret_bool (diskB_yes h.1 (by rw [h2.1]; exact hl2) hall.out hall2.out), (Nx.refl _).alloc _⟩

set_option maxHeartbeats 1000000 in
theorem isSector_c (a : Int) (w : World) : Calls Tryz.prog 215 #[.int .i64 a] w fun e w' => e = .returned (.bool (secB a)) ∧ w = w' := by
  go_enter Tryz.func215, Tryz.ntmps215
  go_wp2
  all_goals (go_ret; refine ⟨ret_bool ?_, rfl⟩; unfold secB; rw [Bool.eq_iff_iff]; simp; try omega)

set_option maxHeartbeats 1000000 in
theorem writeRight_c (a : Int) (s : ByteArray) (w : World) : Calls Tryz.prog 131 #[.agg #[.int .i64 a, .string s]] w fun e w' => e = .returned (.bool (wOk (a, s))) ∧ Nx w w' := by
  cases hsec : secB a with
  | false =>
    have HF := Lib.hid (show false = wOk (a, s) by simp [wOk, hsec])
    have HS := Lib.hid hsec
    clear hsec
    go_enter Tryz.func131, Tryz.ntmps131
    go_wp2_with (go_at_call 215; refine (isSector_c a _).mono ?_; rintro e w' ⟨rfl, rfl⟩; rw [HS.out])
    go_ret
    exact ⟨ret_bool HF.out, (Nx.refl _).alloc _⟩
  | true =>
    have HF := Lib.hid (show decide (s.size ≤ 300) = wOk (a, s) by simp [wOk, hsec, sOk])
    have HS := Lib.hid hsec
    clear hsec
    go_enter Tryz.func131, Tryz.ntmps131
    go_wp2_with (go_at_call 215; refine (isSector_c a _).mono ?_; rintro e w' ⟨rfl, rfl⟩; rw [HS.out])
    go_ret
    refine ⟨ret_bool ?_, (Nx.refl _).alloc _⟩
    rw [← HF.out, Bool.eq_iff_iff]; simp; try omega

set_option maxHeartbeats 1000000 in
theorem isRight_c (A A2 : Option Addr) (n c n2 c2 B : Nat) (ss : List ByteArray) (ws : List (Int × ByteArray)) (w : World) (h : Strs w B A n ss) (h2 : Wrs w B A2 n2 ws) (hB : B ≤ w.heap.size) (hn : n ≤ 1048576) (hn2 : n2 ≤ 1048576) :
    Calls Tryz.prog 58 #[.agg #[.slice A n c, .slice A2 n2 c2]] w fun e w' => e = .returned (.bool (diskB ss ws)) ∧ Nx w w' := by
  by_cases hl : n = 64
  case neg =>
    have h0 : ((n : Int) != 64) = true := by rw [bne_iff_ne]; omega
    have HF := Lib.hid (diskB_len (ss := ss) (ws := ws) (.inl (by rw [h.1]; exact hl)))
    go_enter Tryz.func58, Tryz.ntmps58
    go_wp2
    go_ret
    exact ⟨ret_bool HF.out, (Nx.refl _).alloc _⟩
  subst hl
  by_cases hl2 : n2 ≤ 80
  case neg =>
    have h0 : decide (80 < (n2 : Int)) = true := by simp; omega
    have HF := Lib.hid (diskB_len (ss := ss) (ws := ws) (.inr (by rw [h2.1]; omega)))
    go_enter Tryz.func58, Tryz.ntmps58
    go_wp2
    go_ret
    exact ⟨ret_bool HF.out, (Nx.refl _).alloc _⟩
  have h0 : decide (80 < (n2 : Int)) = false := by simp; omega
  go_enter Tryz.func58, Tryz.ntmps58
  go_wp2
  go_loop [20] (fun i => ∃ k : Nat, k ≤ 64 ∧ i = .int .i64 k ∧ AllTo sOk ss k) (fun i => 64 - (intOf i).toNat)
  case atStart => exact ⟨0, Nat.zero_le _, rfl, AllTo.zero _ _⟩
  case round =>
    obtain ⟨k, hk, rfl, hto⟩ := hrel
    by_cases hlt : k < 64
    · obtain ⟨b, off, rfl, hb, hc⟩ := (h.below ((Nx.refl w).alloc (.cells #[.slice A 64 c, .slice A2 n2 c2] 38)) hB).at_ hlt
      obtain ⟨s, Hs⟩ : ∃ s, Hid (ss.getD k ByteArray.empty = s) := ⟨_, rfl⟩
      rw [Hs.out] at hc
      have hkl : k < ss.length := by rw [h.1]; exact hlt
      by_cases hs : s.size ≤ 300
      · have h3 : decide (300 < (s.size : Int)) = false := by simp; omega
        go_wp2
        go_round
        case rel => exact ⟨k + 1, by omega, by go_num, hto.succ hkl Hs.out (by simp [sOk, hs])⟩
        case measure => simp [intOf]; omega
      · have h3 : decide (300 < (s.size : Int)) = true := by simp; omega
        have HF := Lib.hid (diskB_s (ws := ws) (all_no hkl Hs.out (p := sOk) (by simp [sOk]; omega)))
        go_wp2
        go_ret
        exact ⟨ret_bool HF.out, (Nx.refl _).alloc _⟩
    · obtain rfl : k = 64 := by omega
      have hall := Lib.hid (hto.all h.1)
      clear hto
      go_wp2
      go_loopw [31] (fun i wr => ∃ k : Nat, k ≤ n2 ∧ i = .int .i64 k ∧ AllTo wOk ws k ∧ Nx w wr) (fun i _ => n2 - (intOf i).toNat)
      case atStart => exact ⟨0, Nat.zero_le _, rfl, AllTo.zero _ _, (Nx.refl _).alloc _⟩
      case round =>
        obtain ⟨k, hk, rfl, hto, hnx⟩ := hrel
        by_cases hlt : k < n2
        · obtain ⟨b, off, rfl, hb, hc, hd⟩ := (h2.below hnx hB).at_ hlt
          obtain ⟨⟨a, s⟩, Hs⟩ : ∃ s, Hid (ws.getD k (0, ByteArray.empty) = s) := ⟨_, rfl⟩
          rw [Hs.out] at hc hd
          have hkl : k < ws.length := by rw [h2.1]; exact hlt
          cases hok : wOk (a, s) with
          | false =>
            have HF := Lib.hid (diskB_w (ss := ss) (all_no hkl Hs.out (p := wOk) hok))
            have HO := Lib.hid hok
            clear hok
            go_wp2_with fail
            refine (writeRight_c a s _).mono ?_
            rintro e w1 ⟨rfl, hnx1⟩
            rw [HO.out]
            go_wp2
            go_ret
            exact ⟨ret_bool HF.out, (hnx.alloc _).trans hnx1⟩
          | true =>
            have HO := Lib.hid hok
            clear hok
            go_wp2_with fail
            refine (writeRight_c a s _).mono ?_
            rintro e w1 ⟨rfl, hnx1⟩
            rw [HO.out]
            go_wp2
            go_roundw
            case rel => exact ⟨k + 1, by omega, by go_num, hto.succ hkl Hs.out HO.out, (hnx.alloc _).trans hnx1⟩
            case measure => simp [intOf]; omega
        · obtain rfl : k = n2 := by omega
          have hall2 := Lib.hid (hto.all h2.1)
          go_wp2
          go_ret
          exact ⟨ret_bool (diskB_yes h.1 (by rw [h2.1]; exact hl2) hall.out hall2.out), hnx⟩

end Go.Proofs.YtehahodomfbpjaaGreatDoor
/- Contracts of ReadSector, as the model and as the program have it: both answer the newest write of a sector. Conditions: the disk can be read, and holds at most 1048576 elements of a kind. -/
namespace Go.Proofs.YtehahodomfbpjaaGreatDoor
set_option linter.unusedVariables false
set_option maxRecDepth 100000
open Go.RowKit

theorem ret_strR {a b : ByteArray} (h : a = b) : Ending.returned (.string a) = .returned (.string b) := by rw [h]
def findLast (ws : List (Int × ByteArray)) (a : Nat) : Nat → Option ByteArray
  | 0 => none
  | k + 1 => if ((ws.getD k (0, ByteArray.empty)).1 == (a : Int)) = true then some (ws.getD k (0, ByteArray.empty)).2 else findLast ws a k
/-- What a sector holds: the newest write there, else what is sure. -/
def readP (ss : List ByteArray) (ws : List (Int × ByteArray)) (a : Nat) : ByteArray := (findLast ws a ws.length).getD (ss.getD a ByteArray.empty)
def LastTo (ws : List (Int × ByteArray)) (a k : Nat) : Prop := findLast ws a ws.length = findLast ws a k
theorem LastTo.start {ws : List (Int × ByteArray)} {a n : Nat} (h : ws.length = n) : LastTo ws a n := by unfold LastTo; rw [h]
theorem LastTo.none_ {ss : List ByteArray} {ws : List (Int × ByteArray)} {a : Nat} (h : LastTo ws a 0) : ss.getD a ByteArray.empty = readP ss ws a := by
  unfold readP; rw [h]; rfl
theorem LastTo.found {ss : List ByteArray} {ws : List (Int × ByteArray)} {a k : Nat} {x : Int} {s : ByteArray} (h : LastTo ws a (k + 1)) (hx : ws.getD k (0, ByteArray.empty) = (x, s)) (he : (x == (a : Int)) = true) : s = readP ss ws a := by
  unfold readP; rw [h, findLast, hx]; simp only [he, if_true, Option.getD_some]
theorem LastTo.next_ {ws : List (Int × ByteArray)} {a k : Nat} {x : Int} {s : ByteArray} (h : LastTo ws a (k + 1)) (hx : ws.getD k (0, ByteArray.empty) = (x, s)) (he : (x == (a : Int)) = false) : LastTo ws a k := by
  unfold LastTo at h ⊢; rw [h, findLast, hx]; simp [he]
set_option maxRecDepth 100000 in
set_option maxHeartbeats 1000000 in
theorem l01Read_c (A A2 : Option Addr) (n c n2 c2 B a : Nat) (ss : List ByteArray) (ws : List (Int × ByteArray)) (w : World) (h : Strs w B A n ss) (h2 : Wrs w B A2 n2 ws) (hB : B ≤ w.heap.size) (ha : a < n) (hn : n ≤ 1048576) (hn2 : n2 ≤ 1048576) :
    Calls Tryz.prog 126 #[.agg #[.slice A n c, .slice A2 n2 c2], .int .i64 a] w fun e w' => e = .returned (.string (readP ss ws a)) ∧ Nx w w' := by
  have HL := Lib.hid h2.1
  go_enter Tryz.func126, Tryz.ntmps126
  go_wp2
  go_loop [5] (fun i => ∃ k : Nat, k ≤ n2 ∧ i = .int .i64 ((k : Int) - 1) ∧ LastTo ws a k) (fun i => (intOf i + 1).toNat)
  case atStart => exact ⟨n2, Nat.le_refl _, rfl, LastTo.start HL.out⟩
  case round =>
    obtain ⟨k, hk, rfl, hto⟩ := hrel
    rcases Nat.eq_zero_or_pos k with hz | hpos
    · subst hz
      obtain ⟨b, off, rfl, hb, hc⟩ := (h.below ((Nx.refl w).alloc (.cells #[.slice A n c, .slice A2 n2 c2] 38)) hB).at_ ha
      have HF := Lib.hid (hto.none_ (ss := ss))
      generalize ss.getD a ByteArray.empty = s at hc HF
      go_wp2
      go_ret
      exact ⟨ret_strR HF.out, (Nx.refl _).alloc _⟩
    · obtain ⟨j, rfl⟩ : ∃ j, k = j + 1 := ⟨k - 1, by omega⟩
      have ej : (((j + 1 : Nat) : Int) - 1) = (j : Int) := by omega
      rw [ej]
      obtain ⟨b, off, rfl, hb, hc, hd⟩ := (h2.below ((Nx.refl w).alloc (.cells #[.slice A n c, .slice A2 n2 c2] 38)) hB).at_ (k := j) (by omega)
      obtain ⟨⟨x, s⟩, Hs⟩ : ∃ s, Hid (ws.getD j (0, ByteArray.empty) = s) := ⟨_, rfl⟩
      rw [Hs.out] at hc hd
      clear ej
      cases hx : (x == (a : Int)) with
      | true =>
        have HF := Lib.hid (hto.found (ss := ss) Hs.out hx)
        go_wp2
        go_ret
        exact ⟨ret_strR HF.out, (Nx.refl _).alloc _⟩
      | false =>
        have HF := Lib.hid (hto.next_ Hs.out hx)
        go_wp2
        go_round
        case rel => exact ⟨j, by omega, rfl, HF.out⟩
        case measure => simp [intOf]

set_option maxRecDepth 100000 in
set_option maxHeartbeats 1000000 in
theorem newest_c (A A2 : Option Addr) (n c n2 c2 B a : Nat) (ss : List ByteArray) (ws : List (Int × ByteArray)) (w : World) (h : Strs w B A n ss) (h2 : Wrs w B A2 n2 ws) (hB : B ≤ w.heap.size) (ha : a < n) (hn : n ≤ 1048576) (hn2 : n2 ≤ 1048576) :
    Calls Tryz.prog 217 #[.agg #[.slice A n c, .slice A2 n2 c2], .int .i64 a] w fun e w' => e = .returned (.string (readP ss ws a)) ∧ Nx w w' := by
  have HL := Lib.hid h2.1
  go_enter Tryz.func217, Tryz.ntmps217
  go_wp2
  go_loop [5] (fun i => ∃ k : Nat, k ≤ n2 ∧ i = .int .i64 ((k : Int) - 1) ∧ LastTo ws a k) (fun i => (intOf i + 1).toNat)
  case atStart => exact ⟨n2, Nat.le_refl _, rfl, LastTo.start HL.out⟩
  case round =>
    obtain ⟨k, hk, rfl, hto⟩ := hrel
    rcases Nat.eq_zero_or_pos k with hz | hpos
    · subst hz
      obtain ⟨b, off, rfl, hb, hc⟩ := (h.below ((Nx.refl w).alloc (.cells #[.slice A n c, .slice A2 n2 c2] 38)) hB).at_ ha
      have HF := Lib.hid (hto.none_ (ss := ss))
      generalize ss.getD a ByteArray.empty = s at hc HF
      go_wp2
      go_ret
      exact ⟨ret_strR HF.out, (Nx.refl _).alloc _⟩
    · obtain ⟨j, rfl⟩ : ∃ j, k = j + 1 := ⟨k - 1, by omega⟩
      have ej : (((j + 1 : Nat) : Int) - 1) = (j : Int) := by omega
      rw [ej]
      obtain ⟨b, off, rfl, hb, hc, hd⟩ := (h2.below ((Nx.refl w).alloc (.cells #[.slice A n c, .slice A2 n2 c2] 38)) hB).at_ (k := j) (by omega)
      obtain ⟨⟨x, s⟩, Hs⟩ : ∃ s, Hid (ws.getD j (0, ByteArray.empty) = s) := ⟨_, rfl⟩
      rw [Hs.out] at hc hd
      clear ej
      cases hx : (x == (a : Int)) with
      | true =>
        have HF := Lib.hid (hto.found (ss := ss) Hs.out hx)
        go_wp2
        go_ret
        exact ⟨ret_strR HF.out, (Nx.refl _).alloc _⟩
      | false =>
        have HF := Lib.hid (hto.next_ Hs.out hx)
        go_wp2
        go_round
        case rel => exact ⟨j, by omega, rfl, HF.out⟩
        case measure => simp [intOf]

end Go.Proofs.YtehahodomfbpjaaGreatDoor
/- errors.As at a target that is a slotError: of no error, and of one. Conditions: the library's errorType is the type of errors. -/
namespace Go.Proofs.YtehahodomfbpjaaGreatDoor
set_option linter.unusedVariables false
set_option maxRecDepth 100000
open Go.RowKit Go.Extern.Stop Go.Stop Go.Extern

theorem as_nil (t : Value) (w : World) : Calls Tryz.prog 202 #[.nilIface, t] w fun e w' => e = .returned (.bool false) ∧ w' = w := by
  go_enter Tryz.func202, Tryz.ntmps202
  go_wp2
  go_ret
  exact ⟨rfl, rfl⟩
theorem asValP (t : Addr) (w : World) : (ReflectliteValue.unpack (.iface 219 (.pointer (some t)))).run Tryz.prog w
    = .ok (.agg #[.pointer (some ⟨9, 219, none⟩), .pointer (some ⟨w.heap.size, 0, none⟩), .int .u64 150]) (w.alloc (.cells #[.pointer (some t)] 219)) := by kernel_rfl
theorem asTypP (a : Addr) (w : World) : (ReflectliteValue.methodAny (ReflectliteValue.valueError "reflectlite.Value.Type" 0) (fun t _ _ _ => ReflectliteType.toType t) #[.agg #[.pointer (some ⟨9, 219, none⟩), .pointer (some a), .int .u64 150]]).run Tryz.prog w
    = .ok (.iface 262 (.agg #[.pointer (some ⟨9, 219, none⟩)])) w := by kernel_rfl
theorem asMK (h : Value) (w : World) : (Go.method 434 262 (.agg #[h]) "Kind").run Tryz.prog w = .ok (301, h) w := by kernel_rfl
theorem asKP (w : World) : ((ReflectliteType.abiMethod fun t => (fun a : Nat => Value.int IntKind.u8 (a : Int)) <$> Rtype.kind t) #[.pointer (some ⟨9, 219, none⟩)]).run Tryz.prog w = .ok (.int .u8 22) w := by kernel_rfl
theorem asKE (w : World) : ((ReflectliteType.abiMethod fun t => (fun a : Nat => Value.int IntKind.u8 (a : Int)) <$> Rtype.kind t) #[.pointer (some ⟨9, 217, none⟩)]).run Tryz.prog w = .ok (.int .u8 25) w := by kernel_rfl
theorem asRlm (z : Sem Value) (f : TypeId → Addr → Nat → Nat → Sem Value) (v : Value) :
    ReflectliteValue.method z f #[v] = (do match ← ReflectliteValue.parts v with | none => z | some (t, a, fl) => f t a fl (fl % 32)) := rfl
theorem asPartsP (a : Addr) (w : World) : (ReflectliteValue.parts (.agg #[.pointer (some ⟨9, 219, none⟩), .pointer (some a), .int .u64 150])).run Tryz.prog w = .ok (some (219, a, 150)) w := by kernel_rfl
theorem asNilP (a p : Addr) (W : World) (ha : W.cell? a = some (.pointer (some p))) :
    (ReflectliteValue.method (ReflectliteValue.valueError "reflectlite.Value.IsNil" 0) ReflectliteValue.isNil #[.agg #[.pointer (some ⟨9, 219, none⟩), .pointer (some a), .int .u64 150]]).run Tryz.prog W = .ok (.bool false) W := by
  rw [asRlm]
  simp only [Sem.run_bind, asPartsP, Result.andThen]
  simp [ReflectliteValue.isNil, loadVar, isAgg, underlying, Tryz.underlying219, ha, Result.andThen]
theorem asME (h : Value) (w : World) : (Go.method 434 262 (.agg #[h]) "Elem").run Tryz.prog w = .ok (312, .agg #[h]) w := by kernel_rfl
theorem asMI (h : Value) (w : World) : (Go.method 434 262 (.agg #[h]) "Implements").run Tryz.prog w = .ok (313, .agg #[h]) w := by kernel_rfl
theorem asMA (h : Value) (w : World) : (Go.method 434 262 (.agg #[h]) "AssignableTo").run Tryz.prog w = .ok (310, .agg #[h]) w := by kernel_rfl
theorem asElP (w : World) : (ReflectliteType.method ReflectliteType.elem #[.agg #[.pointer (some ⟨9, 219, none⟩)]]).run Tryz.prog w = .ok (.iface 262 (.agg #[.pointer (some ⟨9, 217, none⟩)])) w := by kernel_rfl
theorem asImE (w : World) : (ReflectliteType.relation "Implements" ReflectliteType.implements_ #[.agg #[.pointer (some ⟨9, 217, none⟩)], .iface 262 (.agg #[.pointer (some ⟨9, 136, none⟩)])]).run Tryz.prog w = .ok (.bool true) w := by kernel_rfl
theorem asTyE (v : Value) (w : World) : (ReflectliteType.typeOf #[.iface 217 v]).run Tryz.prog w = .ok (.iface 262 (.agg #[.pointer (some ⟨9, 217, none⟩)])) w := by kernel_rfl
theorem asAsE (w : World) : (ReflectliteType.relation "AssignableTo" ReflectliteType.assignableTo #[.agg #[.pointer (some ⟨9, 217, none⟩)], .iface 262 (.agg #[.pointer (some ⟨9, 217, none⟩)])]).run Tryz.prog w = .ok (.bool true) w := by kernel_rfl
theorem asValE (s c : Int) (w : World) : (ReflectliteValue.unpack (.iface 217 (.agg #[.int .i64 s, .int .i64 c]))).run Tryz.prog w
    = .ok (.agg #[.pointer (some ⟨9, 217, none⟩), .pointer (some ⟨w.heap.size, 0, none⟩), .int .u64 153]) (w.alloc (.cells #[.int .i64 s, .int .i64 c] 217)) := by kernel_rfl
theorem asElemOf (w : World) : (Rtype.elem? 219).run Tryz.prog w = .ok (some 217) w := by kernel_rfl
theorem asMkE (p : Addr) (w : World) : (ReflectliteValue.mk 217 p ReflectliteValue.flagAddr).run Tryz.prog w = .ok (.agg #[.pointer (some ⟨9, 217, none⟩), .pointer (some p), .int .u64 409]) w := by kernel_rfl
theorem asElV (a p : Addr) (W : World) (ha : W.cell? a = some (.pointer (some p))) :
    (ReflectliteValue.method (ReflectliteValue.valueError "reflectlite.Value.Elem" 0) ReflectliteValue.elem #[.agg #[.pointer (some ⟨9, 219, none⟩), .pointer (some a), .int .u64 150]]).run Tryz.prog W
      = .ok (.agg #[.pointer (some ⟨9, 217, none⟩), .pointer (some p), .int .u64 409]) W := by
  rw [asRlm]
  simp only [Sem.run_bind, asPartsP, Result.andThen]
  simp [ReflectliteValue.elem, loadVar, isAgg, underlying, Tryz.underlying219, ha, Result.andThen, asElemOf, asMkE]
theorem asRls (v x : Value) : ReflectliteValue.set #[v, x] = (do
    let (some (dst, a, fl), some (src, b, _)) := (← ReflectliteValue.parts v, ← ReflectliteValue.parts x)
      | unsupported (.noEntry "extern/(internal/reflectlite.Value).Set.zeroValue")
    if fl / ReflectliteValue.flagAddr % 2 == 0 then unsupported (.noEntry "extern/(internal/reflectlite.Value).Set.unaddressable")
    let val ← loadVar src b
    if ← Rtype.directlyAssignable dst src then storeVar dst a val
    else if ← Rtype.implements dst src then
      if (← Rtype.kind src) == 20 then
        match val with
        | .nilIface => unsupported (.noEntry "extern/reflectlite: a nil value of one interface type handed on as a value of another")
        | _ => storeVar dst a val
      else storeVar dst a (.iface src val)
    else panicString ("reflectlite.Set: value of type " ++ (← Rtype.spelt src) ++ " is not assignable to type " ++ (← Rtype.spelt dst))
    pure (.tuple #[])) := rfl
theorem asPartsA (a : Addr) (w : World) : (ReflectliteValue.parts (.agg #[.pointer (some ⟨9, 217, none⟩), .pointer (some a), .int .u64 409])).run Tryz.prog w = .ok (some (217, a, 409)) w := by kernel_rfl
theorem asPartsE (a : Addr) (w : World) : (ReflectliteValue.parts (.agg #[.pointer (some ⟨9, 217, none⟩), .pointer (some a), .int .u64 153])).run Tryz.prog w = .ok (some (217, a, 153)) w := by kernel_rfl
theorem asDir (w : World) : (Rtype.directlyAssignable 217 217).run Tryz.prog w = .ok true w := by kernel_rfl
theorem asSize : (Tryz.prog.info? 217).map (·.size) = some 2 := by kernel_rfl
theorem asSet (g b : Nat) (s c : Int) (o0 o1 : Value) (W : World) (hb0 : W.cell? ⟨b, 0, none⟩ = some (.int .i64 s)) (hb1 : W.cell? ⟨b, 1, none⟩ = some (.int .i64 c)) (ht : Box W g 217 #[o0, o1]) :
    (ReflectliteValue.set #[.agg #[.pointer (some ⟨9, 217, none⟩), .pointer (some ⟨g, 0, none⟩), .int .u64 409], .agg #[.pointer (some ⟨9, 217, none⟩), .pointer (some ⟨b, 0, none⟩), .int .u64 153]]).run Tryz.prog W
      = .ok (.tuple #[]) ((W.setCell ⟨g, 0, none⟩ (.int .i64 s)).setCell ⟨g, 1, none⟩ (.int .i64 c)) := by
  rw [asRls]
  simp only [Sem.run_bind, asPartsA, asPartsE, Result.andThen]
  obtain ⟨i0, hi0, hz0⟩ : ∃ i0, Tryz.prog.info? 217 = some i0 ∧ i0.size = 2 := by
    have := asSize
    cases h : Tryz.prog.info? 217 with
    | none => rw [h] at this; cases this
    | some i => rw [h] at this; exact ⟨i, rfl, by simpa using this⟩
  have ht1 := ht.set0 (.int .i64 s)
  have f0 := ht.frozen 0
  have f1 := ht1.frozen 1
  have c0 := ht.c0
  have c1 := ht1.c1
  have s0 : (store ⟨g, 0, none⟩ (.int .i64 s)).run Tryz.prog W = .ok () (W.setCell ⟨g, 0, none⟩ (.int .i64 s)) := by
    rw [run_store Tryz.prog W _ _ _ (by rfl)]; simp [c0, f0]
  have s1 : (store ⟨g, 1, none⟩ (.int .i64 c)).run Tryz.prog (W.setCell ⟨g, 0, none⟩ (.int .i64 s)) = .ok () ((W.setCell ⟨g, 0, none⟩ (.int .i64 s)).setCell ⟨g, 1, none⟩ (.int .i64 c)) := by
    rw [run_store Tryz.prog _ _ _ _ (by rfl)]; simp [c1, f1]
  simp [ReflectliteValue.flagAddr, loadVar, isAgg, underlying, Tryz.underlying217, hb0, hb1, Result.andThen, asDir, storeVar, Value.cells, storeCells, Addr.add, sizeOf, typeInfo, hi0, hz0, loadCells, loadCellsFrom, s0, s1]

/-- The library's errorType is the type of errors. -/
def Et (w : World) : Prop := w.cell? ⟨2, 0, none⟩ = some (.iface 262 (.agg #[.pointer (some ⟨9, 136, none⟩)]))
theorem Et.nx {w w' : World} (h : Et w) (hb : Nx w w') : Et w' := (hb.cell (World.block_lt_of_cell? w _ h)).trans h
set_option maxHeartbeats 4000000 in
/-- errors.As of a slotError: the variable g is set; new blocks are made. -/
theorem as_hit (s c : Int) (g : Nat) (o0 o1 : Value) (w : World) (hg : Et w) (ht : Box w g 217 #[o0, o1]) :
    Calls Tryz.prog 202 #[.iface 217 (.agg #[.int .i64 s, .int .i64 c]), .iface 219 (.pointer (some ⟨g, 0, none⟩))] w fun ev w' => ev = .returned (.bool true) ∧ Rg g (g + 1) w w' ∧ Box w' g 217 #[.int .i64 s, .int .i64 c] := by
  have h6 := @run_callFunc_extern Tryz.prog 241 _ (fun args => ReflectliteValue.unpack (args.getD 0 (.tuple #[]))) Tryz.func241 (by kernel_rfl) (by kernel_rfl) (by kernel_rfl) (by kernel_rfl)
  have h7 := @run_callFunc_extern Tryz.prog 242 _ (ReflectliteValue.methodAny (ReflectliteValue.valueError "reflectlite.Value.Type" 0) (fun t _ _ _ => ReflectliteType.toType t)) Tryz.func242 (by kernel_rfl) (by kernel_rfl) (by kernel_rfl) (by kernel_rfl)
  have h8 := @run_callFunc_extern Tryz.prog 243 _ (ReflectliteValue.method (ReflectliteValue.valueError "reflectlite.Value.IsNil" 0) ReflectliteValue.isNil) Tryz.func243 (by kernel_rfl) (by kernel_rfl) (by kernel_rfl) (by kernel_rfl)
  have h27 := @run_callFunc_extern Tryz.prog 301 _ (ReflectliteType.abiMethod fun t => do pure (.int .u8 (← Rtype.kind t))) Tryz.func301 (by kernel_rfl) (by kernel_rfl) (by kernel_rfl) (by kernel_rfl)
  have h37 := @run_callFunc_extern Tryz.prog 312 _ (ReflectliteType.method ReflectliteType.elem) Tryz.func312 (by kernel_rfl) (by kernel_rfl) (by kernel_rfl) (by kernel_rfl)
  have h38 := @run_callFunc_extern Tryz.prog 313 _ (ReflectliteType.relation "Implements" ReflectliteType.implements_) Tryz.func313 (by kernel_rfl) (by kernel_rfl) (by kernel_rfl) (by kernel_rfl)
  have h10 := @run_callFunc_extern Tryz.prog 239 _ ReflectliteType.typeOf Tryz.func239 (by kernel_rfl) (by kernel_rfl) (by kernel_rfl) (by kernel_rfl)
  have h35 := @run_callFunc_extern Tryz.prog 310 _ (ReflectliteType.relation "AssignableTo" ReflectliteType.assignableTo) Tryz.func310 (by kernel_rfl) (by kernel_rfl) (by kernel_rfl) (by kernel_rfl)
  have h11 := @run_callFunc_extern Tryz.prog 257 _ (ReflectliteValue.method (ReflectliteValue.valueError "reflectlite.Value.Elem" 0) ReflectliteValue.elem) Tryz.func257 (by kernel_rfl) (by kernel_rfl) (by kernel_rfl) (by kernel_rfl)
  have h12 := @run_callFunc_extern Tryz.prog 258 _ ReflectliteValue.set Tryz.func258 (by kernel_rfl) (by kernel_rfl) (by kernel_rfl) (by kernel_rfl)
  have tO := asTyE
  have mA := asMA
  have a25 := asAsE
  have v25 := asValE
  have f6 := asValP
  have f7 := asTypP
  have mK := asMK
  have mE := asME
  have mI := asMI
  have k27 := asKP
  have k25 := asKE
  have e27 := asElP
  have i25 := asImE
  have hglt := World.block_lt_of_cell? w _ hg
  have htl := ht.lt
  obtain ⟨w1, hw1⟩ : ∃ x, w.alloc (.cells #[.pointer (some ⟨g, 0, none⟩)] 219) = x := ⟨_, rfl⟩
  obtain ⟨w2, hw2⟩ : ∃ x, w1.alloc (.cells #[.pointer (some ⟨9, 219, none⟩), .pointer (some ⟨w.heap.size, 0, none⟩), .int .u64 150] 243) = x := ⟨_, rfl⟩
  obtain ⟨w3, hw3⟩ : ∃ x, w2.alloc (.cells #[.pointer (some ⟨9, 219, none⟩), .pointer (some ⟨w.heap.size, 0, none⟩), .int .u64 150] 243) = x := ⟨_, rfl⟩
  obtain ⟨w4, hw4⟩ : ∃ x, w3.alloc (.cells #[.int .i64 s, .int .i64 c] 217) = x := ⟨_, rfl⟩
  have x1 : Nx w w1 := by rw [← hw1]; exact (Nx.refl w).alloc _
  have x2 : Nx w1 w2 := by rw [← hw2]; exact (Nx.refl w1).alloc _
  have x3 : Nx w2 w3 := by rw [← hw3]; exact (Nx.refl w2).alloc _
  have x4 : Nx w3 w4 := by rw [← hw4]; exact (Nx.refl w3).alloc _
  have bp : Box w1 w.heap.size 219 #[.pointer (some ⟨g, 0, none⟩)] := by rw [← hw1]; exact Box.new w _ _
  have bv : Box w4 w3.heap.size 217 #[.int .i64 s, .int .i64 c] := by rw [← hw4]; exact Box.new w3 _ _
  have n8 := asNilP ⟨w.heap.size, 0, none⟩ ⟨g, 0, none⟩ w2 ((bp.nx x2).cell 0)
  have el := asElV ⟨w.heap.size, 0, none⟩ ⟨g, 0, none⟩ w3 (((bp.nx x2).nx x3).cell 0)
  have hg2 := (hg.nx x1).nx x2
  have b4 := (((ht.nx x1).nx x2).nx x3).nx x4
  have st := asSet g w3.heap.size s c o0 o1 w4 bv.c0 bv.c1 b4
  unfold Et at hg2
  have z1 : w1.heap.size = w.heap.size + 1 := by rw [← hw1]; simp
  have z2 : w2.heap.size = w.heap.size + 1 + 1 := by rw [← hw2, ← z1]; simp
  have z3 : w3.heap.size = w.heap.size + 1 + 1 + 1 := by rw [← hw3, ← z2]; simp
  have q2 : Box w2 (w.heap.size + 1) 243 #[.pointer (some ⟨9, 219, none⟩), .pointer (some ⟨w.heap.size, 0, none⟩), .int .u64 150] := by rw [← z1, ← hw2]; exact Box.new w1 _ _
  have q3 : Box w3 (w.heap.size + 1 + 1) 243 #[.pointer (some ⟨9, 219, none⟩), .pointer (some ⟨w.heap.size, 0, none⟩), .int .u64 150] := by rw [← z2, ← hw3]; exact Box.new w2 _ _
  obtain ⟨r0, r1, r2⟩ := q2.d3
  obtain ⟨t0, t1, t2⟩ := q3.d3
  rw [z3] at st
  go_enter Tryz.func202, Tryz.ntmps202
  go_wp2
  refine wp_loop_rounds 1 ?_
  rw [rounds_succ]
  go_wp2
  go_ret
  exact ⟨rfl, ((Rg.of_nx (((x1.trans x2).trans x3).trans x4)).setCell (p := ⟨g, 0, none⟩) (Nat.le_refl _) (by simp) _).setCell (p := ⟨g, 1, none⟩) (Nat.le_refl _) (by simp) _, (b4.set0 _).set1 _⟩
end Go.Proofs.YtehahodomfbpjaaGreatDoor
/- Contracts of the program's functions that look for the newest super: superIn. Conditions: the disk can be read; the sector's text has at most 65536 bytes; the package's errors are known; the library's variable MaxLen holds a number. -/
namespace Go.Proofs.YtehahodomfbpjaaGreatDoor
set_option linter.unusedVariables false
set_option maxRecDepth 100000
open Go.RowKit

theorem findLast_in {ws : List (Int × ByteArray)} {a : Nat} : ∀ {k : Nat} {s : ByteArray}, findLast ws a k = some s → k ≤ ws.length → ∃ x, (x, s) ∈ ws
  | 0, s, h, _ => by cases h
  | k + 1, s, h, hk => by
    unfold findLast at h
    split at h
    · injection h with h
      have hk' : k < ws.length := by omega
      refine ⟨(ws.getD k (0, ByteArray.empty)).1, ?_⟩
      rw [← h, List.getD_eq_getElem?_getD, List.getElem?_eq_getElem hk', Option.getD_some]
      exact List.getElem_mem hk'
    · exact findLast_in h (by omega)
theorem readP_size {ss : List ByteArray} {ws : List (Int × ByteArray)} (h : diskB ss ws = true) (a : Nat) : (readP ss ws a).size ≤ 300 := by
  obtain ⟨_, _, h3, h4⟩ := diskB_len64 h
  unfold readP
  cases hf : findLast ws a ws.length with
  | some s =>
    obtain ⟨x, hx⟩ := findLast_in hf (Nat.le_refl _)
    have h5 := List.all_eq_true.1 h4 _ hx
    unfold wOk sOk at h5
    simp only [Bool.and_eq_true, decide_eq_true_eq] at h5
    exact h5.2
  | none =>
    rw [Option.getD_none]
    by_cases ha : a < ss.length
    · rw [List.getD_eq_getElem?_getD, List.getElem?_eq_getElem ha, Option.getD_some]
      have h5 := List.all_eq_true.1 h3 _ (List.getElem_mem ha)
      unfold sOk at h5
      simpa using h5
    · rw [List.getD_eq_getElem?_getD, List.getElem?_eq_none (by omega)]; simp
set_option maxHeartbeats 1600000 in
theorem superIn_c (A A2 : Option Addr) (n c n2 c2 B a : Nat) (ss : List ByteArray) (ws : List (Int × ByteArray)) (w : World) (a0 a1 : Addr) (h : Strs w B A n ss) (h2 : Wrs w B A2 n2 ws) (hB : B ≤ w.heap.size) (ha : a < n) (hn : n ≤ 1048576) (hn2 : n2 ≤ 1048576) (hr : (readP ss ws a).size ≤ 65536) (hE : Er w a0 a1) (hM : Mx w) :
    Calls Tryz.prog 204 #[.agg #[.slice A n c, .slice A2 n2 c2], .int .i64 a] w (RetSU w (rdU (readP ss ws a)) (.iface 217 (.agg #[.int .i64 a, .int .i64 19])) .nilIface) := by
  have b0 : Box ((w.alloc (.cells #[.slice A n c, .slice A2 n2 c2] 38)).alloc (.cells #[.int .i64 0, .int .i64 0, .int .i64 0, .int .i64 0, .slice none 0 0, .slice none 0 0] 30)) (w.heap.size + 1) 30 #[.int .i64 0, .int .i64 0, .int .i64 0, .int .i64 0, .slice none 0 0, .slice none 0 0] := by have := Box.new (w.alloc (.cells #[.slice A n c, .slice A2 n2 c2] 38)) 30 #[.int .i64 0, .int .i64 0, .int .i64 0, .int .i64 0, .slice none 0 0, .slice none 0 0]; rwa [World.size_alloc] at this
  have hx0 := ((Nx.refl w).alloc (.cells #[.slice A n c, .slice A2 n2 c2] 38)).alloc (.cells #[.int .i64 0, .int .i64 0, .int .i64 0, .int .i64 0, .slice none 0 0, .slice none 0 0] 30)
  go_enter Tryz.func204, Tryz.ntmps204
  go_wp2_with fail
  generalize (w.alloc (.cells #[.slice A n c, .slice A2 n2 c2] 38)).alloc (.cells #[.int .i64 0, .int .i64 0, .int .i64 0, .int .i64 0, .slice none 0 0, .slice none 0 0] 30) = W at *
  obtain ⟨gR, Hg⟩ : ∃ g, Hid (w.heap.size + 1 = g) := ⟨_, rfl⟩
  have hgR : w.heap.size ≤ gR := by have := Hg.out; omega
  rw [Hg.out] at b0 ⊢
  have hgl := b0.lt
  refine (newest_c A A2 n c n2 c2 B a ss ws _ (h.below hx0 hB) (h2.below hx0 hB) (Nat.le_trans hB hx0.size) ha hn hn2).mono ?_
  rintro e w1 ⟨rfl, hnx1⟩
  obtain ⟨x, Hx⟩ : ∃ x, Hid (readP ss ws a = x) := ⟨_, rfl⟩
  rw [Hx.out] at hr ⊢
  have hx1 := hx0.trans hnx1
  have b1 := b0.nx hnx1
  have hgl1 : gR < w1.heap.size := b1.lt
  clear b0 hx0 hnx1
  go_wp2_with fail
  refine (superOfText_c x _ a0 a1 hr (hE.nx hx1) (hM.nx hx1)).mono ?_
  rintro e w2 ⟨hnx2, h1, h2'⟩
  have b2 := b1.nx hnx2
  have hx2 := hx1.trans hnx2
  clear b1 hx1 hnx2
  have hlt := b2.lt
  cases hu : rdU x with
  | none =>
    obtain rfl := h1 hu
    have HF : Hid (rdU (readP ss ws a) = none) := Lib.hid (by rw [Hx.out]; exact hu)
    clear h1 h2' hu
    obtain ⟨u0, u1, u2, u3, u4, u5⟩ := b2.d6
    have f0 := b2.frozen 0
    have f1 := b2.frozen 1
    have f2 := b2.frozen 2
    have f3 := b2.frozen 3
    have f4 := b2.frozen 4
    have f5 := b2.frozen 5
    go_wp2
    have qx := ((put6_box b2 (.int .i64 0) (.int .i64 0) (.int .i64 0) (.int .i64 0) (.slice none 0 0) (.slice none 0 0)).alloc (.cells #[.int .i64 0, .int .i64 0, .int .i64 0, .int .i64 0, .slice none 0 0, .slice none 0 0] 30))
    have hnf := ((put6_nx hx2 (hgR) (.int .i64 0) (.int .i64 0) (.int .i64 0) (.int .i64 0) (.slice none 0 0) (.slice none 0 0)).alloc (.cells #[.int .i64 0, .int .i64 0, .int .i64 0, .int .i64 0, .slice none 0 0, .slice none 0 0] 30))
    change bodyPost _ _ _ _ _ (World.alloc (put6 w2 gR (.int .i64 0) (.int .i64 0) (.int .i64 0) (.int .i64 0) (.slice none 0 0) (.slice none 0 0)) (.cells #[.int .i64 0, .int .i64 0, .int .i64 0, .int .i64 0, .slice none 0 0, .slice none 0 0] 30))
    change Box (World.alloc (put6 w2 gR (.int .i64 0) (.int .i64 0) (.int .i64 0) (.int .i64 0) (.slice none 0 0) (.slice none 0 0)) (.cells #[.int .i64 0, .int .i64 0, .int .i64 0, .int .i64 0, .slice none 0 0, .slice none 0 0] 30)) _ _ _ at qx
    generalize World.alloc (put6 w2 gR (.int .i64 0) (.int .i64 0) (.int .i64 0) (.int .i64 0) (.slice none 0 0) (.slice none 0 0)) (.cells #[.int .i64 0, .int .i64 0, .int .i64 0, .int .i64 0, .slice none 0 0, .slice none 0 0] 30) = Wf at *
    obtain ⟨g0, g1, g2, g3, g4, g5⟩ := qx.d6
    exact bodyPost_ret (v := .tuple #[.agg #[.int .i64 0, .int .i64 0, .int .i64 0, .int .i64 0, .slice none 0 0, .slice none 0 0], .iface 217 (.agg #[.int .i64 a, .int .i64 19])]) (by simp [results, Tryz.results204, go_sem, g0, g1, g2, g3, g4, g5]) rfl (RetSU.no HF.out hnf)
  | some u =>
    obtain ⟨g, b, p, q, xs, ms⟩ := u
    obtain ⟨Ax, cx, Am, cm, he, hcc, hS1, hM1⟩ := h2' _ hu
    replace he : e = .returned (.tuple #[.agg #[.int .i64 g, .int .i64 b, .int .i64 p, .int .i64 q, .slice Ax xs.length cx, .slice Am ms.length cm], .nilIface]) := he
    replace hS1 : SlI w2 w1.heap.size Ax xs := hS1
    replace hM1 : SlM w2 w1.heap.size Am ms := hM1
    replace hcc : xs.length ≤ cx := hcc
    have HCC := Lib.hid hcc
    have HF : Hid (rdU (readP ss ws a) = some (g, b, p, q, xs, ms)) := Lib.hid (by rw [Hx.out]; exact hu)
    subst he
    clear h1 h2' hu hcc
    obtain ⟨u0, u1, u2, u3, u4, u5⟩ := b2.d6
    have f0 := b2.frozen 0
    have f1 := b2.frozen 1
    have f2 := b2.frozen 2
    have f3 := b2.frozen 3
    have f4 := b2.frozen 4
    have f5 := b2.frozen 5
    go_wp2
    have qx := ((put6_box b2 (.int .i64 g) (.int .i64 b) (.int .i64 p) (.int .i64 q) (.slice Ax xs.length cx) (.slice Am ms.length cm)).alloc (.cells #[.int .i64 g, .int .i64 b, .int .i64 p, .int .i64 q, .slice Ax xs.length cx, .slice Am ms.length cm] 30))
    have hnf := ((put6_nx hx2 (hgR) (.int .i64 g) (.int .i64 b) (.int .i64 p) (.int .i64 q) (.slice Ax xs.length cx) (.slice Am ms.length cm)).alloc (.cells #[.int .i64 g, .int .i64 b, .int .i64 p, .int .i64 q, .slice Ax xs.length cx, .slice Am ms.length cm] 30))
    have hsf := ((hS1.pt6 hgl1 (.int .i64 g) (.int .i64 b) (.int .i64 p) (.int .i64 q) (.slice Ax xs.length cx) (.slice Am ms.length cm)).nx ((Nx.refl _).alloc (.cells #[.int .i64 g, .int .i64 b, .int .i64 p, .int .i64 q, .slice Ax xs.length cx, .slice Am ms.length cm] 30)))
    change Sl (World.alloc (put6 w2 gR (.int .i64 g) (.int .i64 b) (.int .i64 p) (.int .i64 q) (.slice Ax xs.length cx) (.slice Am ms.length cm)) (.cells #[.int .i64 g, .int .i64 b, .int .i64 p, .int .i64 q, .slice Ax xs.length cx, .slice Am ms.length cm] 30)) _ _ _ _ _ at hsf
    have hmf := ((hM1.pt6 hgl1 (.int .i64 g) (.int .i64 b) (.int .i64 p) (.int .i64 q) (.slice Ax xs.length cx) (.slice Am ms.length cm)).nx ((Nx.refl _).alloc (.cells #[.int .i64 g, .int .i64 b, .int .i64 p, .int .i64 q, .slice Ax xs.length cx, .slice Am ms.length cm] 30)))
    change Sl (World.alloc (put6 w2 gR (.int .i64 g) (.int .i64 b) (.int .i64 p) (.int .i64 q) (.slice Ax xs.length cx) (.slice Am ms.length cm)) (.cells #[.int .i64 g, .int .i64 b, .int .i64 p, .int .i64 q, .slice Ax xs.length cx, .slice Am ms.length cm] 30)) _ _ _ _ _ at hmf
    change bodyPost _ _ _ _ _ (World.alloc (put6 w2 gR (.int .i64 g) (.int .i64 b) (.int .i64 p) (.int .i64 q) (.slice Ax xs.length cx) (.slice Am ms.length cm)) (.cells #[.int .i64 g, .int .i64 b, .int .i64 p, .int .i64 q, .slice Ax xs.length cx, .slice Am ms.length cm] 30))
    change Box (World.alloc (put6 w2 gR (.int .i64 g) (.int .i64 b) (.int .i64 p) (.int .i64 q) (.slice Ax xs.length cx) (.slice Am ms.length cm)) (.cells #[.int .i64 g, .int .i64 b, .int .i64 p, .int .i64 q, .slice Ax xs.length cx, .slice Am ms.length cm] 30)) _ _ _ at qx
    generalize World.alloc (put6 w2 gR (.int .i64 g) (.int .i64 b) (.int .i64 p) (.int .i64 q) (.slice Ax xs.length cx) (.slice Am ms.length cm)) (.cells #[.int .i64 g, .int .i64 b, .int .i64 p, .int .i64 q, .slice Ax xs.length cx, .slice Am ms.length cm] 30) = Wf at *
    obtain ⟨hmf0, hmf1, hmf2, hmf3, hmf4, hmf5⟩ := qx.d6
    exact bodyPost_ret (v := .tuple #[.agg #[.int .i64 g, .int .i64 b, .int .i64 p, .int .i64 q, .slice Ax xs.length cx, .slice Am ms.length cm], .nilIface]) (by simp [results, Tryz.results204, go_sem, hmf0, hmf1, hmf2, hmf3, hmf4, hmf5]) rfl (RetSU.yes HF.out HCC.out (hsf.low (by omega)) (hmf.low (by omega)) hnf)

set_option maxHeartbeats 1000000 in
theorem slotCode_c (s k : Int) (w : World) (hE : Et w) : Calls Tryz.prog 117 #[.iface 217 (.agg #[.int .i64 s, .int .i64 k])] w fun e w' => e = .returned (.int .i64 k) ∧ Nx w w' := by
  have b0 := Box.new w 217 #[.int .i64 0, .int .i64 0]
  have hx0 := (Nx.refl w).alloc (.cells #[.int .i64 0, .int .i64 0] 217)
  go_enter Tryz.func117, Tryz.ntmps117
  go_wp2_with fail
  generalize w.alloc (.cells #[.int .i64 0, .int .i64 0] 217) = W at *
  refine (as_hit s k w.heap.size _ _ _ (hE.nx hx0) b0).mono ?_
  rintro e w1 ⟨rfl, hrg, b1⟩
  have y1 := b1.c1
  go_wp2
  go_ret
  exact ⟨rfl, Rg.nx_of hx0 hrg (Nat.le_refl _)⟩
end Go.Proofs.YtehahodomfbpjaaGreatDoor
