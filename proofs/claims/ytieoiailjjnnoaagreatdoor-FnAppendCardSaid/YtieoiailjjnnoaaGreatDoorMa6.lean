/-
  Texts of the proof, in their order.
  Conditions: those of each.
-/
import Derived.Test.YtieoiailjjnnoaaGreatDoorMa5
import Derived.StillTailTactics
import Derived.Deep.RegionHeld3
import Derived.Laws.BytesArg
import Derived.Outline
import Derived.LaidEql
import Derived.Stop.Asserts
import Derived.RowKitTokens
namespace Go.Proofs.YtieoiailjjnnoaaGreatDoor
set_option linter.unusedVariables false
open _root_.Go.Proofs.Tryz
set_option maxRecDepth 100000
set_option maxHeartbeats 16000000
section
open Go.RowKit
def Strs (w : World) (B : Nat) (A : Option Addr) (n : Nat) (ss : List BA) : Prop :=
 ss.length = n /\ Row w B A n (fun i => .string (ss.getD i ByteArray.empty))
def Wrs (w : World) (B : Nat) (A : Option Addr) (n : Nat) (ws : List (Int × BA)) : Prop :=
 ws.length = n /\ Row w B A (n * 2) (fun i => if i % 2 = 0 then ii (ws.getD (i / 2) (0, ByteArray.empty)).1 else .string (ws.getD (i / 2) (0, ByteArray.empty)).2)
theorem Strs.below {w w' : World} {B B' n : Nat} {A : Option Addr} {ss : List BA} (h : Strs w B A n ss) (hb : Below B' w w') (hB : B <= B') : Strs w' B A n ss := ⟨h.1, h.2.below hb hB⟩
theorem Strs.more {w : World} {B B' n : Nat} {A : Option Addr} {ss : List BA} (h : Strs w B A n ss) (hB : B <= B') : Strs w B' A n ss := ⟨h.1, h.2.more hB⟩
theorem Wrs.below {w w' : World} {B B' n : Nat} {A : Option Addr} {ws : List (Int × BA)} (h : Wrs w B A n ws) (hb : Below B' w w') (hB : B <= B') : Wrs w' B A n ws := ⟨h.1, h.2.below hb hB⟩
theorem Wrs.more {w : World} {B B' n : Nat} {A : Option Addr} {ws : List (Int × BA)} (h : Wrs w B A n ws) (hB : B <= B') : Wrs w B' A n ws := ⟨h.1, h.2.more hB⟩
theorem Strs.at_ {w : World} {B n k : Nat} {A : Option Addr} {ss : List BA} (h : Strs w B A n ss) (hk : k < n) :
 ∃ b off, A = some ⟨b, off, none⟩ /\ b < B /\ w.cell? ⟨b, off + k, none⟩ = some (.string (ss.getD k ByteArray.empty)) := by
 obtain ⟨b, off, e, hb, hc⟩ := h.2 oM
 exact ⟨b, off, e, hb, hc k hk⟩
theorem Wrs.at_ {w : World} {B n k : Nat} {A : Option Addr} {ws : List (Int × BA)} (h : Wrs w B A n ws) (hk : k < n) :
 ∃ b off, A = some ⟨b, off, none⟩ /\ b < B /\ w.cell? ⟨b, off + k * 2, none⟩ = some (ii (ws.getD k (0, ByteArray.empty)).1) /\ w.cell? ⟨b, off + k * 2 + 1, none⟩ = some (.string (ws.getD k (0, ByteArray.empty)).2) := by
 obtain ⟨b, off, e, hb, hc⟩ := h.2 oM
 have h0 := hc (k * 2) oM
 have h1 := hc (k * 2 + 1) oM
 have e1 : (k * 2) % 2 = 0 := oM
 have e2 : ¬ (k * 2 + 1) % 2 = 0 := oM
 have e3 : (k * 2) / 2 = k := oM
 have e4 : (k * 2 + 1) / 2 = k := oM
 simp only [e1, e3, if_true] at h0
 simp only [e2, e4, if_false] at h1
 exact ⟨b, off, e, hb, h0, h1⟩
def strAt (ss : List BA) (i : Nat) : Value := .string (ss.getD i ByteArray.empty)
def wrAt (ws : List (Int × BA)) (i : Nat) : Value := if i % 2 = 0 then ii (ws.getD (i / 2) (0, ByteArray.empty)).1 else .string (ws.getD (i / 2) (0, ByteArray.empty)).2
theorem wrAt_even (ws : List (Int × BA)) (k : Nat) : wrAt ws (k * 2) = ii (ws.getD k (0, ByteArray.empty)).1 := by
 unfold wrAt; rw [if_pos oM, show k * 2 / 2 = k by omega]
theorem wrAt_odd (ws : List (Int × BA)) (k : Nat) : wrAt ws (k * 2 + 1) = .string (ws.getD k (0, ByteArray.empty)).2 := by
 unfold wrAt; rw [if_neg oM, show (k * 2 + 1) / 2 = k by omega]
def OwnS (w : World) (g : Nat) (ss : List BA) : Prop := Own w g 9 ss.length (strAt ss)
def OwnW (w : World) (g : Nat) (ws : List (Int × BA)) : Prop := Own w g 102 (ws.length * 2) (wrAt ws)
def SlS (w : World) (lo : Nat) (A : Option Addr) (n : Nat) (ss : List BA) : Prop := ss.length = n /\ (0 < n -> ∃ g, A = some ⟨g, 0, none⟩ /\ lo <= g /\ OwnS w g ss)
def SlW (w : World) (lo : Nat) (A : Option Addr) (n : Nat) (ws : List (Int × BA)) : Prop := ws.length = n /\ (0 < n -> ∃ g, A = some ⟨g, 0, none⟩ /\ lo <= g /\ OwnW w g ws)
theorem SlS.nil (w : World) (lo : Nat) : SlS w lo none 0 [] := ⟨rfl, fun h => absurd h oM⟩
theorem SlW.nil (w : World) (lo : Nat) : SlW w lo none 0 [] := ⟨rfl, fun h => absurd h oM⟩
theorem SlS.nx {w w' : World} {lo n : Nat} {A : Option Addr} {ss : List BA} (h : SlS w lo A n ss) (hb : Nx w w') : SlS w' lo A n ss :=
 ⟨h.1, fun hn => by obtain ⟨g, e, hl, ho⟩ := h.2 hn; exact ⟨g, e, hl, Own.nx ho hb⟩⟩
theorem SlW.nx {w w' : World} {lo n : Nat} {A : Option Addr} {ws : List (Int × BA)} (h : SlW w lo A n ws) (hb : Nx w w') : SlW w' lo A n ws :=
 ⟨h.1, fun hn => by obtain ⟨g, e, hl, ho⟩ := h.2 hn; exact ⟨g, e, hl, Own.nx ho hb⟩⟩
theorem SlS.low {w : World} {lo lo' n : Nat} {A : Option Addr} {ss : List BA} (h : SlS w lo A n ss) (hl : lo' <= lo) : SlS w lo' A n ss :=
 ⟨h.1, fun hn => by obtain ⟨g, e, hl2, ho⟩ := h.2 hn; exact ⟨g, e, ntr hl hl2, ho⟩⟩
theorem SlW.low {w : World} {lo lo' n : Nat} {A : Option Addr} {ws : List (Int × BA)} (h : SlW w lo A n ws) (hl : lo' <= lo) : SlW w lo' A n ws :=
 ⟨h.1, fun hn => by obtain ⟨g, e, hl2, ho⟩ := h.2 hn; exact ⟨g, e, ntr hl hl2, ho⟩⟩
theorem SlS.strs {w : World} {lo n : Nat} {A : Option Addr} {ss : List BA} (h : SlS w lo A n ss) : Strs w w.heap.size A n ss :=
 ⟨h.1, fun hn => by
  obtain ⟨g, e, hl, ho⟩ := h.2 hn
  subst e
  have := Own.row ho (Own.lt ho)
  rw [h.1] at this
  exact this hn⟩
theorem SlW.wrs {w : World} {lo n : Nat} {A : Option Addr} {ws : List (Int × BA)} (h : SlW w lo A n ws) : Wrs w w.heap.size A n ws :=
 ⟨h.1, fun hn => by
  obtain ⟨g, e, hl, ho⟩ := h.2 oM
  subst e
  have := Own.row ho (Own.lt ho)
  rw [h.1] at this
  exact this hn⟩
def SrS (w : World) (lo hi : Nat) (A : Option Addr) (n : Nat) (ss : List BA) : Prop := ss.length = n /\ (0 < n -> ∃ g, A = some ⟨g, 0, none⟩ /\ lo <= g /\ g < hi /\ OwnS w g ss)
def SrW (w : World) (lo hi : Nat) (A : Option Addr) (n : Nat) (ws : List (Int × BA)) : Prop := ws.length = n /\ (0 < n -> ∃ g, A = some ⟨g, 0, none⟩ /\ lo <= g /\ g < hi /\ OwnW w g ws)
theorem SlS.sr {w : World} {lo n : Nat} {A : Option Addr} {ss : List BA} (h : SlS w lo A n ss) : SrS w lo w.heap.size A n ss :=
 ⟨h.1, fun hn => by obtain ⟨g, e, hl, ho⟩ := h.2 hn; exact ⟨g, e, hl, Own.lt ho, ho⟩⟩
theorem SlW.sr {w : World} {lo n : Nat} {A : Option Addr} {ws : List (Int × BA)} (h : SlW w lo A n ws) : SrW w lo w.heap.size A n ws :=
 ⟨h.1, fun hn => by obtain ⟨g, e, hl, ho⟩ := h.2 hn; exact ⟨g, e, hl, Own.lt ho, ho⟩⟩
theorem SrS.sl {w : World} {lo hi n : Nat} {A : Option Addr} {ss : List BA} (h : SrS w lo hi A n ss) : SlS w lo A n ss :=
 ⟨h.1, fun hn => by obtain ⟨g, e, hl, _, ho⟩ := h.2 hn; exact ⟨g, e, hl, ho⟩⟩
theorem SrW.sl {w : World} {lo hi n : Nat} {A : Option Addr} {ws : List (Int × BA)} (h : SrW w lo hi A n ws) : SlW w lo A n ws :=
 ⟨h.1, fun hn => by obtain ⟨g, e, hl, _, ho⟩ := h.2 hn; exact ⟨g, e, hl, ho⟩⟩
theorem SrS.rg {w w' : World} {lo hi a b n : Nat} {A : Option Addr} {ss : List BA} (h : SrS w lo hi A n ss) (hb : Rg a b w w') (hd : hi <= a \/ b <= lo) : SrS w' lo hi A n ss :=
 ⟨h.1, fun hn => by obtain ⟨g, e, hl, hh, ho⟩ := h.2 hn; exact ⟨g, e, hl, hh, Own.rg ho hb oM⟩⟩
theorem SrW.rg {w w' : World} {lo hi a b n : Nat} {A : Option Addr} {ws : List (Int × BA)} (h : SrW w lo hi A n ws) (hb : Rg a b w w') (hd : hi <= a \/ b <= lo) : SrW w' lo hi A n ws :=
 ⟨h.1, fun hn => by obtain ⟨g, e, hl, hh, ho⟩ := h.2 hn; exact ⟨g, e, hl, hh, Own.rg ho hb oM⟩⟩
theorem SrW.ty {w w' : World} {lo hi n : Nat} {A : Option Addr} {ws : List (Int × BA)} (h : SrW w lo hi A n ws) (hb : TyK 9 w w') : SrW w' lo hi A n ws :=
 ⟨h.1, fun hn => by obtain ⟨g, e, hl, hh, ho⟩ := h.2 hn; exact ⟨g, e, hl, hh, hb _ _ _ _ dC ho⟩⟩
theorem SrS.ty {w w' : World} {lo hi n : Nat} {A : Option Addr} {ss : List BA} (h : SrS w lo hi A n ss) (hb : TyK 102 w w') : SrS w' lo hi A n ss :=
 ⟨h.1, fun hn => by obtain ⟨g, e, hl, hh, ho⟩ := h.2 hn; exact ⟨g, e, hl, hh, hb _ _ _ _ dC ho⟩⟩
theorem SrS.nx {w w' : World} {lo hi n : Nat} {A : Option Addr} {ss : List BA} (h : SrS w lo hi A n ss) (hb : Nx w w') : SrS w' lo hi A n ss :=
 ⟨h.1, fun hn => by obtain ⟨g, e, hl, hh, ho⟩ := h.2 hn; exact ⟨g, e, hl, hh, Own.nx ho hb⟩⟩
theorem SrW.nx {w w' : World} {lo hi n : Nat} {A : Option Addr} {ws : List (Int × BA)} (h : SrW w lo hi A n ws) (hb : Nx w w') : SrW w' lo hi A n ws :=
 ⟨h.1, fun hn => by obtain ⟨g, e, hl, hh, ho⟩ := h.2 hn; exact ⟨g, e, hl, hh, Own.nx ho hb⟩⟩
def RetS (w : World) (ss : List BA) (e : Ending) (w' : World) : Prop := ∃ (A : Option Addr) (n c : Nat), e = .returned (sC A n c) /\ SlS w' w.heap.size A n ss /\ Nx w w'
def RetW (w : World) (ws : List (Int × BA)) (e : Ending) (w' : World) : Prop := ∃ (A : Option Addr) (n c : Nat), e = .returned (sC A n c) /\ SlW w' w.heap.size A n ws /\ Nx w w'
theorem RetS.mk_own {w w' : World} {g n c : Nat} {ss : List BA} (hn : ss.length = n) (hg : w.heap.size <= g) (h : OwnS w' g ss) (hb : Nx w w') : RetS w ss (.returned (sC (some ⟨g, 0, none⟩) n c)) w' :=
 ⟨_, n, c, rfl, ⟨hn, fun _ => ⟨g, rfl, hg, h⟩⟩, hb⟩
theorem RetW.mk_own {w w' : World} {g n c : Nat} {ws : List (Int × BA)} (hn : ws.length = n) (hg : w.heap.size <= g) (h : OwnW w' g ws) (hb : Nx w w') : RetW w ws (.returned (sC (some ⟨g, 0, none⟩) n c)) w' :=
 ⟨_, n, c, rfl, ⟨hn, fun _ => ⟨g, rfl, hg, h⟩⟩, hb⟩
theorem SlS.far {w : World} {lo n : Nat} {A : Option Addr} {ss : List BA} (h : SlS w lo A n ss) {p : Addr} (hp : p.block < lo) (v : Value) : SlS (w.setCell p v) lo A n ss :=
 ⟨h.1, fun hn => by obtain ⟨g, e, hl, ho⟩ := h.2 hn; exact ⟨g, e, hl, Own.far ho oM v⟩⟩
theorem SlW.far {w : World} {lo n : Nat} {A : Option Addr} {ws : List (Int × BA)} (h : SlW w lo A n ws) {p : Addr} (hp : p.block < lo) (v : Value) : SlW (w.setCell p v) lo A n ws :=
 ⟨h.1, fun hn => by obtain ⟨g, e, hl, ho⟩ := h.2 hn; exact ⟨g, e, hl, Own.far ho oM v⟩⟩
def RetDisk (w : World) (ss : List BA) (ws : List (Int × BA)) (e : Ending) (w' : World) : Prop :=
 ∃ (A : Option Addr) (n c : Nat) (A2 : Option Addr) (n2 c2 : Nat), e = .returned (.agg #[sC A n c, sC A2 n2 c2]) /\ SlS w' w.heap.size A n ss /\ SlW w' w.heap.size A2 n2 ws /\ Nx w w'
def RetDiskCode (w : World) (ss : List BA) (ws : List (Int × BA)) (code : Int) (e : Ending) (w' : World) : Prop :=
 ∃ (A : Option Addr) (n c : Nat) (A2 : Option Addr) (n2 c2 : Nat), e = .returned (.tuple #[.agg #[sC A n c, sC A2 n2 c2], ii code]) /\ SlS w' w.heap.size A n ss /\ SlW w' w.heap.size A2 n2 ws /\ Nx w w'
theorem fin_box {w u : World} {gr lo lo2 n3 n4 : Nat} {A3 A4 : Option Addr} {v0 v1 : Value} {t : TypeId} {ss : List BA} {ws : List (Int × BA)} (c3 c4 : Nat) (hb : Box u gr t #[v0, v1]) (hS : SlS u lo A3 n3 ss) (hW : SlW u lo2 A4 n4 ws)
 (hlo : gr < lo) (hlo2 : gr < lo2) (hx : Nx w u) (hg : w.heap.size <= gr) :
 ((u.setCell ⟨gr, 0, none⟩ (sC A3 n3 c3)).setCell ⟨gr, 1, none⟩ (sC A4 n4 c4)).cell? ⟨gr, 0, none⟩ = some (sC A3 n3 c3) /\
 ((u.setCell ⟨gr, 0, none⟩ (sC A3 n3 c3)).setCell ⟨gr, 1, none⟩ (sC A4 n4 c4)).cell? ⟨gr, 1, none⟩ = some (sC A4 n4 c4) /\
 SlS ((u.setCell ⟨gr, 0, none⟩ (sC A3 n3 c3)).setCell ⟨gr, 1, none⟩ (sC A4 n4 c4)) w.heap.size A3 n3 ss /\
 SlW ((u.setCell ⟨gr, 0, none⟩ (sC A3 n3 c3)).setCell ⟨gr, 1, none⟩ (sC A4 n4 c4)) w.heap.size A4 n4 ws /\
 Nx w ((u.setCell ⟨gr, 0, none⟩ (sC A3 n3 c3)).setCell ⟨gr, 1, none⟩ (sC A4 n4 c4)) := by
 have q := (hb.set0 (sC A3 n3 c3)).set1 (sC A4 n4 c4)
 exact ⟨q.c0, q.c1, ((hS.far (p := ⟨gr, 0, none⟩) hlo _).far (p := ⟨gr, 1, none⟩) hlo _).low oM, ((hW.far (p := ⟨gr, 0, none⟩) hlo2 _).far (p := ⟨gr, 1, none⟩) hlo2 _).low oM, (hx.setCell (p := ⟨gr, 0, none⟩) hg _).setCell (p := ⟨gr, 1, none⟩) hg _⟩
def Dk (w : World) (lo hi : Nat) (A : Option Addr) (n c : Nat) (A2 : Option Addr) (n2 c2 : Nat) (ss : List BA) (ws : List (Int × BA)) : Prop :=
 SrS w lo hi A n ss /\ SrW w lo hi A2 n2 ws /\ Box w hi 35 #[sC A n c, sC A2 n2 c2]
section
variable {w w' : World} {lo hi : Nat} {A : Option Addr} {n c : Nat} {A2 : Option Addr} {n2 c2 : Nat} {ss : List BA} {ws : List (Int × BA)}
theorem Dk.new (hS : SlS w lo A n ss) (hW : SlW w lo A2 n2 ws) : Dk (w.alloc (.cells #[sC A n c, sC A2 n2 c2] 35)) lo w.heap.size A n c A2 n2 c2 ss ws :=
 ⟨hS.sr.nx ((Nx.refl w).alloc _), hW.sr.nx ((Nx.refl w).alloc _), Box.new w _ _⟩
theorem Dk.nx (h : Dk w lo hi A n c A2 n2 c2 ss ws) (hb : Nx w w') : Dk w' lo hi A n c A2 n2 c2 ss ws := ⟨h.1.nx hb, h.2.1.nx hb, h.2.2.nx hb⟩
theorem Dk.rg {a b : Nat} (h : Dk w lo hi A n c A2 n2 c2 ss ws) (hb : Rg a b w w') (hd : hi < a \/ b <= lo) (hlo : lo <= hi) : Dk w' lo hi A n c A2 n2 c2 ss ws :=
 ⟨h.1.rg hb oM, h.2.1.rg hb oM, h.2.2.rg hb oM⟩
theorem Dk.c0 (h : Dk w lo hi A n c A2 n2 c2 ss ws) : w.cell? ⟨hi, 0, none⟩ = some (sC A n c) := h.2.2.c0
theorem Dk.c1 (h : Dk w lo hi A n c A2 n2 c2 ss ws) : w.cell? ⟨hi, 1, none⟩ = some (sC A2 n2 c2) := h.2.2.c1
theorem Dk.strs (h : Dk w lo hi A n c A2 n2 c2 ss ws) : Strs w w.heap.size A n ss := h.1.sl.strs
theorem Dk.wrs (h : Dk w lo hi A n c A2 n2 c2 ss ws) : Wrs w w.heap.size A2 n2 ws := h.2.1.sl.wrs
end
theorem OwnS.strs {w : World} {g B : Nat} {ss : List BA} (h : OwnS w g ss) (hB : g < B) : Strs w B (some ⟨g, 0, none⟩) ss.length ss := ⟨rfl, Own.row h hB⟩
theorem OwnW.wrs {w : World} {g B : Nat} {ws : List (Int × BA)} (h : OwnW w g ws) (hB : g < B) : Wrs w B (some ⟨g, 0, none⟩) ws.length ws := ⟨rfl, Own.row h hB⟩
def dg (k : Nat) : BA := strOfNums [48 + (k : Int) % 10]
def mtL (k : Nat) (o : BA) : BA := if h : k = 0 then o else mtL (k / 10) (dg k ++ o)
termination_by k
decreasing_by omega
theorem mtL_zero (o : BA) : mtL 0 o = o := by rw [mtL]; simp
theorem mtL_pos (k : Nat) (o : BA) (h : 0 < k) : mtL k o = mtL (k / 10) (dg k ++ o) := by rw [mtL, dif_neg oM]
def mt (k : Nat) : BA := if k = 0 then ⟨#[109, 48]⟩ else ⟨#[109]⟩ ++ mtL k ⟨#[]⟩
def MtTo (K k : Nat) (o : BA) : Prop := mtL K ⟨#[]⟩ = mtL k o
theorem MtTo.next_ {K k : Nat} {o : BA} (h : MtTo K k o) (hp : 0 < k) : MtTo K (k / 10) (dg k ++ o) := by
 unfold MtTo at h ⊢; rw [h, mtL_pos k o hp]
theorem MtTo.done {K : Nat} {o : BA} (h : MtTo K 0 o) (hK : 0 < K) : ⟨#[109]⟩ ++ o = mt K := by
 unfold MtTo at h
 unfold mt
 rw [if_neg oM, h, mtL_zero]
def markM (k n : Nat) : List Mrk := (List.range n).map (fun i => (mt (k + i * 2), ((k + i * 2 + 1 : Nat) : Int)))

def RetRU (w : World) (t : BA) (e : Ending) (w' : World) : Prop :=
 Nx w w' /\ ∃ A c A2 c2, e = .returned (.tuple #[.agg #[ii (suA t).1, ii (suA t).2.1, ii (suA t).2.2.1, ii (suA t).2.2.2.1, sC A (suA t).2.2.2.2.1.length c, sC A2 (suA t).2.2.2.2.2.length c2], ii (suC t)]) /\
  (suA t).2.2.2.2.1.length <= c /\ SlI w' w.heap.size A (suA t).2.2.2.2.1 /\ SlM w' w.heap.size A2 (suA t).2.2.2.2.2
theorem RetRU.un {w w' : World} {t : BA} {e : Ending} {g b p q : Int} {xs : List Int} {ms : List Mrk} {cd : Int} (h : RetRU w t e w') (hq : suA t = (g, b, p, q, xs, ms)) (hc : suC t = cd) :
 Nx w w' /\ ∃ A c A2 c2, e = .returned (.tuple #[.agg #[ii g, ii b, ii p, ii q, sC A xs.length c, sC A2 ms.length c2], ii cd]) /\ xs.length <= c /\ SlI w' w.heap.size A xs /\ SlM w' w.heap.size A2 ms := by
 unfold RetRU at h; rw [hq, hc] at h; exact h
theorem RetRU.mk {w w' : World} {t : BA} {g b p q : Int} {xs : List Int} {ms : List Mrk} {cd : Int} {c c2 : Nat} {A A2 : Option Addr} (hq : suA t = (g, b, p, q, xs, ms) /\ suC t = cd) (hc : xs.length <= c) (hs : SlI w' w.heap.size A xs) (hm : SlM w' w.heap.size A2 ms) (hn : Nx w w') :
 RetRU w t (.returned (.tuple #[.agg #[ii g, ii b, ii p, ii q, sC A xs.length c, sC A2 ms.length c2], ii cd])) w' := by
 unfold RetRU; rw [hq.1, hq.2]; exact ⟨hn, A, c, A2, c2, rfl, hc, hs, hm⟩
theorem SlI.nil {w : World} {lo : Nat} : SlI w lo none [] := fun h => absurd h (by simp)
theorem SlM.nil {w : World} {lo : Nat} : SlM w lo none [] := fun h => absurd h (by simp)
theorem RetRU.zero {w w' : World} {t : BA} {cd : Int} (hq : suA t = zU /\ suC t = cd) (hn : Nx w w') :
 RetRU w t (.returned (.tuple #[.agg #[ii 0, ii 0, ii 0, ii 0, nsl, nsl], ii cd])) w' := RetRU.mk (g := 0) (b := 0) (p := 0) (q := 0) (xs := []) (ms := []) hq nle SlI.nil SlM.nil hn
def secB (a : Int) : Bool := decide (0 <= a) && decide (a <= 63)
def sOk (s : BA) : Bool := decide (s.size <= 300)
def wOk (x : Int × BA) : Bool := secB x.1 && sOk x.2
def diskB (ss : List BA) (ws : List (Int × BA)) : Bool := (ss.length == 64) && decide (ws.length <= 80) && ss.all sOk && ws.all wOk
def AllTo {α : Type} (p : α -> Bool) (l : List α) (k : Nat) : Prop := (l.take k).all p = true
theorem AllTo.zero {α : Type} (p : α -> Bool) (l : List α) : AllTo p l 0 := by simp [AllTo]
theorem AllTo.succ {α : Type} {p : α -> Bool} {l : List α} {k : Nat} {d x : α} (h : AllTo p l k) (hk : k < l.length) (hx : l.getD k d = x) (hp : p x = true) : AllTo p l (k + 1) := by
 unfold AllTo at h ⊢
 rw [List.take_succ_eq_append_getElem hk, List.all_append, h]
 have : l[k] = x := by rw [<- hx, gdE, List.getElem?_eq_getElem hk]; rfl
 simp [this, hp]
theorem AllTo.all {α : Type} {p : α -> Bool} {l : List α} {k : Nat} (h : AllTo p l k) (hk : l.length = k) : l.all p = true := by
 unfold AllTo at h
 rwa [List.take_of_length_le oM] at h
theorem all_no {α : Type} {p : α -> Bool} {l : List α} {k : Nat} {d x : α} (hk : k < l.length) (hx : l.getD k d = x) (hp : p x = false) : l.all p = false := by
 rw [List.all_eq_false]
 refine ⟨l[k], List.getElem_mem hk, ?_⟩
 have : l[k] = x := by rw [<- hx, gdE, List.getElem?_eq_getElem hk]; rfl
 rw [this, hp]; simp
theorem diskB_len {ss : List BA} {ws : List (Int × BA)} (h : ss.length ≠ 64 \/ 80 < ws.length) : false = diskB ss ws := by
 unfold diskB
 rcases h with h | h
 . rw [beq_eq_false_iff_ne.2 h]; rfl
 . rw [decide_eq_false (p := ws.length <= 80) oM]; simp
theorem diskB_s {ss : List BA} {ws : List (Int × BA)} (h : ss.all sOk = false) : false = diskB ss ws := by
 unfold diskB; rw [h]; simp
theorem diskB_w {ss : List BA} {ws : List (Int × BA)} (h : ws.all wOk = false) : false = diskB ss ws := by
 unfold diskB; rw [h]; simp
theorem diskB_yes {ss : List BA} {ws : List (Int × BA)} (h1 : ss.length = 64) (h2 : ws.length <= 80) (h3 : ss.all sOk = true) (h4 : ws.all wOk = true) : true = diskB ss ws := by
 unfold diskB; rw [h3, h4, h1]; simp [h2]
theorem diskB_len64 {ss : List BA} {ws : List (Int × BA)} (h : diskB ss ws = true) : ss.length = 64 /\ ws.length <= 80 /\ ss.all sOk = true /\ ws.all wOk = true := by
 unfold diskB at h
 simp only [Bool.and_eq_true, beq_iff_eq, decide_eq_true_eq] at h
 exact ⟨h.1.1.1, h.1.1.2, h.1.2, h.2⟩
theorem l01In_d (a lo hi : Int) (w : World) : Calls Tryz.prog 106 #[ii a, ii lo, ii hi] w fun e w' => e = .returned (.bool (decide (lo <= a) && decide (a <= hi))) /\ w = w' := by
 go_enter func106, ntmps106
 go_wp2
 all_goals (go_ret; refine ⟨ret_bool ?_, rfl⟩; rw [Bool.eq_iff_iff]; simp; try omega)
theorem specDiskOK_c (A A2 : Option Addr) (n c n2 c2 B : Nat) (ss : List BA) (ws : List (Int × BA)) (w : World) (h : Strs w B A n ss) (h2 : Wrs w B A2 n2 ws) (hB : B <= w.heap.size) (hn : n <= 1048576) (hn2 : n2 <= 1048576) :
 Calls Tryz.prog 57 #[.agg #[sC A n c, sC A2 n2 c2]] w fun e w' => e = .returned (.bool (diskB ss ws)) /\ Nx w w' := by
 by_cases hl : n = 64
 case neg =>
  have h0 : ((n : Int) != 64) = true := by rw [bne_iff_ne]; omega
  have HF := qh (diskB_len (ss := ss) (ws := ws) (.inl (by rw [h.1]; exact hl)))
  go_enter func57, ntmps57
  go_wp2
  go_ret
  exact ⟨ret_bool HF.out, (Nx.refl _).alloc _⟩
 subst hl
 by_cases hl2 : n2 <= 80
 case neg =>
  have h0 : decide (80 < (n2 : Int)) = true := by simp; omega
  have HF := qh (diskB_len (ss := ss) (ws := ws) (.inr (by rw [h2.1]; omega)))
  go_enter func57, ntmps57
  go_wp2
  go_ret
  exact ⟨ret_bool HF.out, (Nx.refl _).alloc _⟩
 have h0 : decide (80 < (n2 : Int)) = false := by simp; omega
 go_enter func57, ntmps57
 go_wp2
 go_loop [3] (fun i => ∃ k : Nat, k <= 64 /\ i = ii k /\ AllTo sOk ss k) (fun i => 64 - (intOf i).toNat)
 case atStart => exact ⟨0, Nat.zero_le _, rfl, AllTo.zero _ _⟩
 case round =>
  obtain ⟨k, hk, rfl, hto⟩ := hrel
  by_cases hlt : k < 64
  . obtain ⟨b, off, rfl, hb, hc⟩ := (h.below ((Nx.refl w).alloc (.cells #[sC A 64 c, sC A2 n2 c2] 35)) hB).at_ hlt
    obtain ⟨s, Hs⟩ := nM (ss.getD k ByteArray.empty)
    rw [Hs.out] at hc
    have hkl : k < ss.length := by rw [h.1]; exact hlt
    by_cases hs : s.size <= 300
    . have h3 : decide (300 < (s.size : Int)) = false := by simp; omega
      go_wp2
      go_round
      case rel => exact ⟨k + 1, oM, by go_num, hto.succ hkl Hs.out (by simp [sOk, hs])⟩
      case measure => simp [intOf]; omega
    . have h3 : decide (300 < (s.size : Int)) = true := by simp; omega
      have HF := qh (diskB_s (ws := ws) (all_no hkl Hs.out (p := sOk) (by simp [sOk]; omega)))
      go_wp2
      go_ret
      exact ⟨ret_bool HF.out, (Nx.refl _).alloc _⟩
  . obtain rfl : k = 64 := oM
    have hall := qh (hto.all h.1)
    clear hto
    go_wp2
    go_loop [4] (fun i => ∃ k : Nat, k <= n2 /\ i = ii k /\ AllTo wOk ws k) (fun i => n2 - (intOf i).toNat)
    case atStart => exact ⟨0, Nat.zero_le _, rfl, AllTo.zero _ _⟩
    case round =>
     obtain ⟨k, hk, rfl, hto⟩ := hrel
     by_cases hlt : k < n2
     . obtain ⟨b, off, rfl, hb, hc, hd⟩ := (h2.below ((Nx.refl w).alloc (.cells #[sC A 64 c, sC A2 n2 c2] 35)) hB).at_ hlt
       obtain ⟨⟨a, s⟩, Hs⟩ := nM (ws.getD k (0, ByteArray.empty))
       rw [Hs.out] at hc hd
       have hkl : k < ws.length := by rw [h2.1]; exact hlt
       cases hsec : secB a with
       | false =>
         have HF := qh (diskB_w (ss := ss) (all_no hkl Hs.out (p := wOk) (by simp [wOk, hsec])))
         have hsec' : (decide (0 <= a) && decide (a <= 63)) = false := hsec
         have HS := qh hsec'
         clear hsec hsec'
         go_wp2_with (go_at_call 106; refine (l01In_d a 0 63 _).mono ?_; rintro e w' ⟨rfl, rfl⟩; rw [HS.out])
         go_ret
         exact ⟨ret_bool HF.out, (Nx.refl _).alloc _⟩
       | true =>
         have hsec' : (decide (0 <= a) && decide (a <= 63)) = true := hsec
         have HS := qh hsec'
         have HSec := qh hsec
         clear hsec hsec'
         by_cases hs : s.size <= 300
         . have h3 : decide (300 < (s.size : Int)) = false := by simp; omega
           go_wp2_with (go_at_call 106; refine (l01In_d a 0 63 _).mono ?_; rintro e w' ⟨rfl, rfl⟩; rw [HS.out])
           go_round
           case rel => exact ⟨k + 1, oM, by go_num, hto.succ hkl Hs.out (by simp [wOk, HSec.out, sOk, hs])⟩
           case measure => simp [intOf]; omega
         . have h3 : decide (300 < (s.size : Int)) = true := by simp; omega
           have HF := qh (diskB_w (ss := ss) (all_no hkl Hs.out (p := wOk) (by simp [wOk, sOk]; omega)))
           go_wp2_with (go_at_call 106; refine (l01In_d a 0 63 _).mono ?_; rintro e w' ⟨rfl, rfl⟩; rw [HS.out])
           go_ret
           exact ⟨ret_bool HF.out, (Nx.refl _).alloc _⟩
     . obtain rfl : k = n2 := oM
       have hall2 := qh (hto.all h2.1)
       go_wp2
       go_ret
       exact ⟨ret_bool (diskB_yes h.1 (by rw [h2.1]; exact hl2) hall.out hall2.out), (Nx.refl _).alloc _⟩
theorem isSector_c (a : Int) (w : World) : Calls Tryz.prog 186 #[ii a] w fun e w' => e = .returned (.bool (secB a)) /\ w = w' := by
 go_enter func186, ntmps186
 go_wp2
 all_goals (go_ret; refine ⟨ret_bool ?_, rfl⟩; unfold secB; rw [Bool.eq_iff_iff]; simp; try omega)
theorem writeRight_c (a : Int) (s : BA) (w : World) : Calls Tryz.prog 120 #[.agg #[ii a, .string s]] w fun e w' => e = .returned (.bool (wOk (a, s))) /\ Nx w w' := by
 cases hsec : secB a with
 | false =>
   have HF := qh (show false = wOk (a, s) by simp [wOk, hsec])
   have HS := qh hsec
   clear hsec
   go_enter func120, ntmps120
   go_wp2_with (go_at_call 186; refine (isSector_c a _).mono ?_; rintro e w' ⟨rfl, rfl⟩; rw [HS.out])
   go_ret
   exact ⟨ret_bool HF.out, (Nx.refl _).alloc _⟩
 | true =>
   have HF := qh (show decide (s.size <= 300) = wOk (a, s) by simp [wOk, hsec, sOk])
   have HS := qh hsec
   clear hsec
   go_enter func120, ntmps120
   go_wp2_with (go_at_call 186; refine (isSector_c a _).mono ?_; rintro e w' ⟨rfl, rfl⟩; rw [HS.out])
   go_ret
   refine ⟨ret_bool ?_, (Nx.refl _).alloc _⟩
   rw [<- HF.out, Bool.eq_iff_iff]; simp; try omega
theorem isRight_c (A A2 : Option Addr) (n c n2 c2 B : Nat) (ss : List BA) (ws : List (Int × BA)) (w : World) (h : Strs w B A n ss) (h2 : Wrs w B A2 n2 ws) (hB : B <= w.heap.size) (hn : n <= 1048576) (hn2 : n2 <= 1048576) :
 Calls Tryz.prog 51 #[.agg #[sC A n c, sC A2 n2 c2]] w fun e w' => e = .returned (.bool (diskB ss ws)) /\ Nx w w' := by
 by_cases hl : n = 64
 case neg =>
  have h0 : ((n : Int) != 64) = true := by rw [bne_iff_ne]; omega
  have HF := qh (diskB_len (ss := ss) (ws := ws) (.inl (by rw [h.1]; exact hl)))
  go_enter func51, ntmps51
  go_wp2
  go_ret
  exact ⟨ret_bool HF.out, (Nx.refl _).alloc _⟩
 subst hl
 by_cases hl2 : n2 <= 80
 case neg =>
  have h0 : decide (80 < (n2 : Int)) = true := by simp; omega
  have HF := qh (diskB_len (ss := ss) (ws := ws) (.inr (by rw [h2.1]; omega)))
  go_enter func51, ntmps51
  go_wp2
  go_ret
  exact ⟨ret_bool HF.out, (Nx.refl _).alloc _⟩
 have h0 : decide (80 < (n2 : Int)) = false := by simp; omega
 go_enter func51, ntmps51
 go_wp2
 go_loop [20] (fun i => ∃ k : Nat, k <= 64 /\ i = ii k /\ AllTo sOk ss k) (fun i => 64 - (intOf i).toNat)
 case atStart => exact ⟨0, Nat.zero_le _, rfl, AllTo.zero _ _⟩
 case round =>
  obtain ⟨k, hk, rfl, hto⟩ := hrel
  by_cases hlt : k < 64
  . obtain ⟨b, off, rfl, hb, hc⟩ := (h.below ((Nx.refl w).alloc (.cells #[sC A 64 c, sC A2 n2 c2] 35)) hB).at_ hlt
    obtain ⟨s, Hs⟩ := nM (ss.getD k ByteArray.empty)
    rw [Hs.out] at hc
    have hkl : k < ss.length := by rw [h.1]; exact hlt
    by_cases hs : s.size <= 300
    . have h3 : decide (300 < (s.size : Int)) = false := by simp; omega
      go_wp2
      go_round
      case rel => exact ⟨k + 1, oM, by go_num, hto.succ hkl Hs.out (by simp [sOk, hs])⟩
      case measure => simp [intOf]; omega
    . have h3 : decide (300 < (s.size : Int)) = true := by simp; omega
      have HF := qh (diskB_s (ws := ws) (all_no hkl Hs.out (p := sOk) (by simp [sOk]; omega)))
      go_wp2
      go_ret
      exact ⟨ret_bool HF.out, (Nx.refl _).alloc _⟩
  . obtain rfl : k = 64 := oM
    have hall := qh (hto.all h.1)
    clear hto
    go_wp2
    go_loopw [31] (fun i wr => ∃ k : Nat, k <= n2 /\ i = ii k /\ AllTo wOk ws k /\ Nx w wr) (fun i _ => n2 - (intOf i).toNat)
    case atStart => exact ⟨0, Nat.zero_le _, rfl, AllTo.zero _ _, (Nx.refl _).alloc _⟩
    case round =>
     obtain ⟨k, hk, rfl, hto, hnx⟩ := hrel
     by_cases hlt : k < n2
     . obtain ⟨b, off, rfl, hb, hc, hd⟩ := (h2.below hnx hB).at_ hlt
       obtain ⟨⟨a, s⟩, Hs⟩ := nM (ws.getD k (0, ByteArray.empty))
       rw [Hs.out] at hc hd
       have hkl : k < ws.length := by rw [h2.1]; exact hlt
       cases hok : wOk (a, s) with
       | false =>
         have HF := qh (diskB_w (ss := ss) (all_no hkl Hs.out (p := wOk) hok))
         have HO := qh hok
         clear hok
         go_wp2_with fail
         refine (writeRight_c a s _).mono ?_
         rintro e w1 ⟨rfl, hnx1⟩
         rw [HO.out]
         go_wp2
         go_ret
         exact ⟨ret_bool HF.out, (hnx.alloc _).trans hnx1⟩
       | true =>
         have HO := qh hok
         clear hok
         go_wp2_with fail
         refine (writeRight_c a s _).mono ?_
         rintro e w1 ⟨rfl, hnx1⟩
         rw [HO.out]
         go_wp2
         go_roundw
         case rel => exact ⟨k + 1, oM, by go_num, hto.succ hkl Hs.out HO.out, (hnx.alloc _).trans hnx1⟩
         case measure => simp [intOf]; omega
     . obtain rfl : k = n2 := oM
       have hall2 := qh (hto.all h2.1)
       go_wp2
       go_ret
       exact ⟨ret_bool (diskB_yes h.1 (by rw [h2.1]; exact hl2) hall.out hall2.out), hnx⟩
theorem ret_strR {a b : BA} (h : a = b) : Ending.returned (.string a) = .returned (.string b) := by rw [h]
def findLast (ws : List (Int × BA)) (a : Nat) : Nat -> Option BA
 | 0 => none
 | k + 1 => if ((ws.getD k (0, ByteArray.empty)).1 == (a : Int)) = true then some (ws.getD k (0, ByteArray.empty)).2 else findLast ws a k
def readP (ss : List BA) (ws : List (Int × BA)) (a : Nat) : BA := (findLast ws a ws.length).getD (ss.getD a ByteArray.empty)
def LastTo (ws : List (Int × BA)) (a k : Nat) : Prop := findLast ws a ws.length = findLast ws a k
theorem LastTo.start {ws : List (Int × BA)} {a n : Nat} (h : ws.length = n) : LastTo ws a n := by unfold LastTo; rw [h]
theorem LastTo.none_ {ss : List BA} {ws : List (Int × BA)} {a : Nat} (h : LastTo ws a 0) : ss.getD a ByteArray.empty = readP ss ws a := by
 unfold readP; rw [h]; rfl
theorem LastTo.found {ss : List BA} {ws : List (Int × BA)} {a k : Nat} {x : Int} {s : BA} (h : LastTo ws a (k + 1)) (hx : ws.getD k (0, ByteArray.empty) = (x, s)) (he : (x == (a : Int)) = true) : s = readP ss ws a := by
 unfold readP; rw [h, findLast, hx]; simp only [he, if_true, Option.getD_some]
theorem LastTo.next_ {ws : List (Int × BA)} {a k : Nat} {x : Int} {s : BA} (h : LastTo ws a (k + 1)) (hx : ws.getD k (0, ByteArray.empty) = (x, s)) (he : (x == (a : Int)) = false) : LastTo ws a k := by
 unfold LastTo at h ⊢; rw [h, findLast, hx]; simp [he]
theorem l01Read_c (A A2 : Option Addr) (n c n2 c2 B a : Nat) (ss : List BA) (ws : List (Int × BA)) (w : World) (h : Strs w B A n ss) (h2 : Wrs w B A2 n2 ws) (hB : B <= w.heap.size) (ha : a < n) (hn : n <= 1048576) (hn2 : n2 <= 1048576) :
 Calls Tryz.prog 130 #[.agg #[sC A n c, sC A2 n2 c2], ii a] w fun e w' => e = .returned (.string (readP ss ws a)) /\ Nx w w' := by
 have HL := qh h2.1
 go_enter func130, ntmps130
 go_wp2
 go_loop [5] (fun i => ∃ k : Nat, k <= n2 /\ i = ii ((k : Int) - 1) /\ LastTo ws a k) (fun i => (intOf i + 1).toNat)
 case atStart => exact ⟨n2, Nat.le_refl _, rfl, LastTo.start HL.out⟩
 case round =>
  obtain ⟨k, hk, rfl, hto⟩ := hrel
  rcases Nat.eq_zero_or_pos k with hz | hpos
  . subst hz
    obtain ⟨b, off, rfl, hb, hc⟩ := (h.below ((Nx.refl w).alloc (.cells #[sC A n c, sC A2 n2 c2] 35)) hB).at_ ha
    have HF := qh (hto.none_ (ss := ss))
    generalize ss.getD a ByteArray.empty = s at hc HF
    go_wp2
    go_ret
    exact ⟨ret_strR HF.out, (Nx.refl _).alloc _⟩
  . obtain ⟨j, rfl⟩ : ∃ j, k = j + 1 := ⟨k - 1, oM⟩
    have ej : (((j + 1 : Nat) : Int) - 1) = (j : Int) := oM
    rw [ej]
    obtain ⟨b, off, rfl, hb, hc, hd⟩ := (h2.below ((Nx.refl w).alloc (.cells #[sC A n c, sC A2 n2 c2] 35)) hB).at_ (k := j) oM
    obtain ⟨⟨x, s⟩, Hs⟩ := nM (ws.getD j (0, ByteArray.empty))
    rw [Hs.out] at hc hd
    clear ej
    cases hx : (x == (a : Int)) with
    | true =>
      have HF := qh (hto.found (ss := ss) Hs.out hx)
      go_wp2
      go_ret
      exact ⟨ret_strR HF.out, (Nx.refl _).alloc _⟩
    | false =>
      have HF := qh (hto.next_ Hs.out hx)
      go_wp2
      go_round
      case rel => exact ⟨j, oM, rfl, HF.out⟩
      case measure => simp [intOf]
theorem newest_c (A A2 : Option Addr) (n c n2 c2 B a : Nat) (ss : List BA) (ws : List (Int × BA)) (w : World) (h : Strs w B A n ss) (h2 : Wrs w B A2 n2 ws) (hB : B <= w.heap.size) (ha : a < n) (hn : n <= 1048576) (hn2 : n2 <= 1048576) :
 Calls Tryz.prog 191 #[.agg #[sC A n c, sC A2 n2 c2], ii a] w fun e w' => e = .returned (.string (readP ss ws a)) /\ Nx w w' := by
 have HL := qh h2.1
 go_enter func191, ntmps191
 go_wp2
 go_loop [5] (fun i => ∃ k : Nat, k <= n2 /\ i = ii ((k : Int) - 1) /\ LastTo ws a k) (fun i => (intOf i + 1).toNat)
 case atStart => exact ⟨n2, Nat.le_refl _, rfl, LastTo.start HL.out⟩
 case round =>
  obtain ⟨k, hk, rfl, hto⟩ := hrel
  rcases Nat.eq_zero_or_pos k with hz | hpos
  . subst hz
    obtain ⟨b, off, rfl, hb, hc⟩ := (h.below ((Nx.refl w).alloc (.cells #[sC A n c, sC A2 n2 c2] 35)) hB).at_ ha
    have HF := qh (hto.none_ (ss := ss))
    generalize ss.getD a ByteArray.empty = s at hc HF
    go_wp2
    go_ret
    exact ⟨ret_strR HF.out, (Nx.refl _).alloc _⟩
  . obtain ⟨j, rfl⟩ : ∃ j, k = j + 1 := ⟨k - 1, oM⟩
    have ej : (((j + 1 : Nat) : Int) - 1) = (j : Int) := oM
    rw [ej]
    obtain ⟨b, off, rfl, hb, hc, hd⟩ := (h2.below ((Nx.refl w).alloc (.cells #[sC A n c, sC A2 n2 c2] 35)) hB).at_ (k := j) oM
    obtain ⟨⟨x, s⟩, Hs⟩ := nM (ws.getD j (0, ByteArray.empty))
    rw [Hs.out] at hc hd
    clear ej
    cases hx : (x == (a : Int)) with
    | true =>
      have HF := qh (hto.found (ss := ss) Hs.out hx)
      go_wp2
      go_ret
      exact ⟨ret_strR HF.out, (Nx.refl _).alloc _⟩
    | false =>
      have HF := qh (hto.next_ Hs.out hx)
      go_wp2
      go_round
      case rel => exact ⟨j, oM, rfl, HF.out⟩
      case measure => simp [intOf]
end
section
open Go.RowKit Go.Extern.Stop Go.Stop Go.Extern
theorem as_nil (t : Value) (w : World) : Calls Tryz.prog 122 #[.nilIface, t] w fun e w' => e = .returned (.bool false) /\ w' = w := by
 go_enter func122, ntmps122
 go_wp2
 go_ret
 exact ⟨rfl, rfl⟩
theorem asValP (t : Addr) (w : World) : (ReflectliteValue.unpack (.iface 161 (.pointer (some t)))).run Tryz.prog w
 = .ok (.agg #[.pointer (some ⟨9, 161, none⟩), .pointer (some ⟨w.heap.size, 0, none⟩), .int .u64 150]) (w.alloc (.cells #[.pointer (some t)] 161)) := by kernel_rfl
theorem asTypP (a : Addr) (w : World) : (ReflectliteValue.methodAny (ReflectliteValue.valueError "reflectlite.Value.Type" 0) (fun t _ _ _ => ReflectliteType.toType t) #[.agg #[.pointer (some ⟨9, 161, none⟩), .pointer (some a), .int .u64 150]]).run Tryz.prog w
 = .ok (.iface 242 (.agg #[.pointer (some ⟨9, 161, none⟩)])) w := by kernel_rfl
theorem asMK (h : Value) (w : World) : (Go.method 420 242 (.agg #[h]) "Kind").run Tryz.prog w = .ok (272, h) w := by kernel_rfl
theorem asKP (w : World) : ((ReflectliteType.abiMethod fun t => (fun a : Nat => Value.int IntKind.u8 (a : Int)) <$> Rtype.kind t) #[.pointer (some ⟨9, 161, none⟩)]).run Tryz.prog w = .ok (.int .u8 22) w := by kernel_rfl
theorem asKE (w : World) : ((ReflectliteType.abiMethod fun t => (fun a : Nat => Value.int IntKind.u8 (a : Int)) <$> Rtype.kind t) #[.pointer (some ⟨9, 159, none⟩)]).run Tryz.prog w = .ok (.int .u8 25) w := by kernel_rfl
theorem asRlm (z : Sem Value) (f : TypeId -> Addr -> Nat -> Nat -> Sem Value) (v : Value) :
 ReflectliteValue.method z f #[v] = (do match <- ReflectliteValue.parts v with | none => z | some (t, a, fl) => f t a fl (fl % 32)) := rfl
theorem asPartsP (a : Addr) (w : World) : (ReflectliteValue.parts (.agg #[.pointer (some ⟨9, 161, none⟩), .pointer (some a), .int .u64 150])).run Tryz.prog w = .ok (some (161, a, 150)) w := by kernel_rfl
theorem asNilP (a p : Addr) (W : World) (ha : W.cell? a = some (.pointer (some p))) :
 (ReflectliteValue.method (ReflectliteValue.valueError "reflectlite.Value.IsNil" 0) ReflectliteValue.isNil #[.agg #[.pointer (some ⟨9, 161, none⟩), .pointer (some a), .int .u64 150]]).run Tryz.prog W = .ok (.bool false) W := by
 rw [asRlm]
 simp only [Sem.run_bind, asPartsP, Result.andThen]
 simp [ReflectliteValue.isNil, loadVar, isAgg, underlying, underlying161, ha, Result.andThen]
theorem asME (h : Value) (w : World) : (Go.method 420 242 (.agg #[h]) "Elem").run Tryz.prog w = .ok (283, .agg #[h]) w := by kernel_rfl
theorem asMI (h : Value) (w : World) : (Go.method 420 242 (.agg #[h]) "Implements").run Tryz.prog w = .ok (284, .agg #[h]) w := by kernel_rfl
theorem asMA (h : Value) (w : World) : (Go.method 420 242 (.agg #[h]) "AssignableTo").run Tryz.prog w = .ok (281, .agg #[h]) w := by kernel_rfl
theorem asElP (w : World) : (ReflectliteType.method ReflectliteType.elem #[.agg #[.pointer (some ⟨9, 161, none⟩)]]).run Tryz.prog w = .ok (.iface 242 (.agg #[.pointer (some ⟨9, 159, none⟩)])) w := by kernel_rfl
theorem asImE (w : World) : (ReflectliteType.relation "Implements" ReflectliteType.implements_ #[.agg #[.pointer (some ⟨9, 159, none⟩)], .iface 242 (.agg #[.pointer (some ⟨9, 86, none⟩)])]).run Tryz.prog w = .ok (.bool true) w := by kernel_rfl
theorem asTyE (v : Value) (w : World) : (ReflectliteType.typeOf #[.iface 159 v]).run Tryz.prog w = .ok (.iface 242 (.agg #[.pointer (some ⟨9, 159, none⟩)])) w := by kernel_rfl
theorem asAsE (w : World) : (ReflectliteType.relation "AssignableTo" ReflectliteType.assignableTo #[.agg #[.pointer (some ⟨9, 159, none⟩)], .iface 242 (.agg #[.pointer (some ⟨9, 159, none⟩)])]).run Tryz.prog w = .ok (.bool true) w := by kernel_rfl
theorem asValE (s c : Int) (w : World) : (ReflectliteValue.unpack (.iface 159 (.agg #[ii s, ii c]))).run Tryz.prog w
 = .ok (.agg #[.pointer (some ⟨9, 159, none⟩), .pointer (some ⟨w.heap.size, 0, none⟩), .int .u64 153]) (w.alloc (.cells #[ii s, ii c] 159)) := by kernel_rfl
theorem asElemOf (w : World) : (Rtype.elem? 161).run Tryz.prog w = .ok (some 159) w := by kernel_rfl
theorem asMkE (p : Addr) (w : World) : (ReflectliteValue.mk 159 p ReflectliteValue.flagAddr).run Tryz.prog w = .ok (.agg #[.pointer (some ⟨9, 159, none⟩), .pointer (some p), .int .u64 409]) w := by kernel_rfl
theorem asElV (a p : Addr) (W : World) (ha : W.cell? a = some (.pointer (some p))) :
 (ReflectliteValue.method (ReflectliteValue.valueError "reflectlite.Value.Elem" 0) ReflectliteValue.elem #[.agg #[.pointer (some ⟨9, 161, none⟩), .pointer (some a), .int .u64 150]]).run Tryz.prog W
  = .ok (.agg #[.pointer (some ⟨9, 159, none⟩), .pointer (some p), .int .u64 409]) W := by
 rw [asRlm]
 simp only [Sem.run_bind, asPartsP, Result.andThen]
 simp [ReflectliteValue.elem, loadVar, isAgg, underlying, underlying161, ha, Result.andThen, asElemOf, asMkE]
theorem asRls (v x : Value) : ReflectliteValue.set #[v, x] = (do
 let (some (dst, a, fl), some (src, b, _)) := (<- ReflectliteValue.parts v, <- ReflectliteValue.parts x)
  | unsupported (.noEntry "extern/(internal/reflectlite.Value).Set.zeroValue")
 if fl / ReflectliteValue.flagAddr % 2 == 0 then unsupported (.noEntry "extern/(internal/reflectlite.Value).Set.unaddressable")
 let val <- loadVar src b
 if <- Rtype.directlyAssignable dst src then storeVar dst a val
 else if <- Rtype.implements dst src then
  if (<- Rtype.kind src) == 20 then
   match val with
   | .nilIface => unsupported (.noEntry "extern/reflectlite: a nil value of one interface type handed on as a value of another")
   | _ => storeVar dst a val
  else storeVar dst a (.iface src val)
 else panicString ("reflectlite.Set: value of type " ++ (<- Rtype.spelt src) ++ " is not assignable to type " ++ (<- Rtype.spelt dst))
 pure (.tuple #[])) := rfl
theorem asPartsA (a : Addr) (w : World) : (ReflectliteValue.parts (.agg #[.pointer (some ⟨9, 159, none⟩), .pointer (some a), .int .u64 409])).run Tryz.prog w = .ok (some (159, a, 409)) w := by kernel_rfl
theorem asPartsE (a : Addr) (w : World) : (ReflectliteValue.parts (.agg #[.pointer (some ⟨9, 159, none⟩), .pointer (some a), .int .u64 153])).run Tryz.prog w = .ok (some (159, a, 153)) w := by kernel_rfl
theorem asDir (w : World) : (Rtype.directlyAssignable 159 159).run Tryz.prog w = .ok true w := by kernel_rfl
theorem asSize : (Tryz.prog.info? 159).map (·.size) = some 2 := by kernel_rfl
theorem asSet (g b : Nat) (s c : Int) (o0 o1 : Value) (W : World) (hb0 : W.cell? ⟨b, 0, none⟩ = some (ii s)) (hb1 : W.cell? ⟨b, 1, none⟩ = some (ii c)) (ht : Box W g 159 #[o0, o1]) :
 (ReflectliteValue.set #[.agg #[.pointer (some ⟨9, 159, none⟩), .pointer (some ⟨g, 0, none⟩), .int .u64 409], .agg #[.pointer (some ⟨9, 159, none⟩), .pointer (some ⟨b, 0, none⟩), .int .u64 153]]).run Tryz.prog W
  = .ok (.tuple #[]) ((W.setCell ⟨g, 0, none⟩ (ii s)).setCell ⟨g, 1, none⟩ (ii c)) := by
 rw [asRls]
 simp only [Sem.run_bind, asPartsA, asPartsE, Result.andThen]
 obtain ⟨i0, hi0, hz0⟩ : ∃ i0, Tryz.prog.info? 159 = some i0 /\ i0.size = 2 := by
  have := asSize
  cases h : Tryz.prog.info? 159 with
  | none => rw [h] at this; cases this
  | some i => rw [h] at this; exact ⟨i, rfl, by simpa using this⟩
 have ht1 := ht.set0 (ii s)
 have f0 := ht.frozen 0
 have f1 := ht1.frozen 1
 have c0 := ht.c0
 have c1 := ht1.c1
 have s0 : (store ⟨g, 0, none⟩ (ii s)).run Tryz.prog W = .ok () (W.setCell ⟨g, 0, none⟩ (ii s)) := by
  rw [run_store Tryz.prog W _ _ _ (by rfl)]; simp [c0, f0]
 have s1 : (store ⟨g, 1, none⟩ (ii c)).run Tryz.prog (W.setCell ⟨g, 0, none⟩ (ii s)) = .ok () ((W.setCell ⟨g, 0, none⟩ (ii s)).setCell ⟨g, 1, none⟩ (ii c)) := by
  rw [run_store Tryz.prog _ _ _ _ (by rfl)]; simp [c1, f1]
 simp [ReflectliteValue.flagAddr, loadVar, isAgg, underlying, underlying159, hb0, hb1, Result.andThen, asDir, storeVar, Value.cells, storeCells, Addr.add, sizeOf, typeInfo, hi0, hz0, loadCells, loadCellsFrom, s0, s1]
def Et (w : World) : Prop := w.cell? ⟨2, 0, none⟩ = some (.iface 242 (.agg #[.pointer (some ⟨9, 86, none⟩)]))
theorem Et.nx {w w' : World} (h : Et w) (hb : Nx w w') : Et w' := (hb.cell (World.block_lt_of_cell? w _ h)).trans h
theorem as_hit (s c : Int) (g : Nat) (o0 o1 : Value) (w : World) (hg : Et w) (ht : Box w g 159 #[o0, o1]) :
 Calls Tryz.prog 122 #[.iface 159 (.agg #[ii s, ii c]), .iface 161 (.pointer (some ⟨g, 0, none⟩))] w fun ev w' => ev = .returned (.bool true) /\ Rg g (g + 1) w w' /\ Box w' g 159 #[ii s, ii c] := by
 have h6 := @run_callFunc_extern Tryz.prog 187 _ (fun args => ReflectliteValue.unpack (args.getD 0 (.tuple #[]))) func187 (by kernel_rfl) (by kernel_rfl) (by kernel_rfl) (by kernel_rfl)
 have h7 := @run_callFunc_extern Tryz.prog 188 _ (ReflectliteValue.methodAny (ReflectliteValue.valueError "reflectlite.Value.Type" 0) (fun t _ _ _ => ReflectliteType.toType t)) func188 (by kernel_rfl) (by kernel_rfl) (by kernel_rfl) (by kernel_rfl)
 have h8 := @run_callFunc_extern Tryz.prog 189 _ (ReflectliteValue.method (ReflectliteValue.valueError "reflectlite.Value.IsNil" 0) ReflectliteValue.isNil) func189 (by kernel_rfl) (by kernel_rfl) (by kernel_rfl) (by kernel_rfl)
 have h27 := @run_callFunc_extern Tryz.prog 272 _ (ReflectliteType.abiMethod fun t => do pure (.int .u8 (<- Rtype.kind t))) func272 (by kernel_rfl) (by kernel_rfl) (by kernel_rfl) (by kernel_rfl)
 have h37 := @run_callFunc_extern Tryz.prog 283 _ (ReflectliteType.method ReflectliteType.elem) func283 (by kernel_rfl) (by kernel_rfl) (by kernel_rfl) (by kernel_rfl)
 have h38 := @run_callFunc_extern Tryz.prog 284 _ (ReflectliteType.relation "Implements" ReflectliteType.implements_) func284 (by kernel_rfl) (by kernel_rfl) (by kernel_rfl) (by kernel_rfl)
 have h10 := @run_callFunc_extern Tryz.prog 184 _ ReflectliteType.typeOf func184 (by kernel_rfl) (by kernel_rfl) (by kernel_rfl) (by kernel_rfl)
 have h35 := @run_callFunc_extern Tryz.prog 281 _ (ReflectliteType.relation "AssignableTo" ReflectliteType.assignableTo) func281 (by kernel_rfl) (by kernel_rfl) (by kernel_rfl) (by kernel_rfl)
 have h11 := @run_callFunc_extern Tryz.prog 217 _ (ReflectliteValue.method (ReflectliteValue.valueError "reflectlite.Value.Elem" 0) ReflectliteValue.elem) func217 (by kernel_rfl) (by kernel_rfl) (by kernel_rfl) (by kernel_rfl)
 have h12 := @run_callFunc_extern Tryz.prog 218 _ ReflectliteValue.set func218 (by kernel_rfl) (by kernel_rfl) (by kernel_rfl) (by kernel_rfl)
 have tO := asTyE
 have mA := asMA
 have a25 := asAsE
 have v25 := asValE
 have f6 := asValP
 have f7 := asTypP
 have mK := asMK
 have mE := asME
 have mI := asMI
 have k27 := asKP
 have k25 := asKE
 have e27 := asElP
 have i25 := asImE
 have hglt := World.block_lt_of_cell? w _ hg
 have htl := ht.lt
 obtain ⟨w1, hw1⟩ : ∃ x, w.alloc (.cells #[.pointer (some ⟨g, 0, none⟩)] 161) = x := ⟨_, rfl⟩
 obtain ⟨w2, hw2⟩ : ∃ x, w1.alloc (.cells #[.pointer (some ⟨9, 161, none⟩), .pointer (some ⟨w.heap.size, 0, none⟩), .int .u64 150] 213) = x := ⟨_, rfl⟩
 obtain ⟨w3, hw3⟩ : ∃ x, w2.alloc (.cells #[.pointer (some ⟨9, 161, none⟩), .pointer (some ⟨w.heap.size, 0, none⟩), .int .u64 150] 213) = x := ⟨_, rfl⟩
 obtain ⟨w4, hw4⟩ : ∃ x, w3.alloc (.cells #[ii s, ii c] 159) = x := ⟨_, rfl⟩
 have x1 : Nx w w1 := by rw [<- hw1]; exact (Nx.refl w).alloc _
 have x2 : Nx w1 w2 := by rw [<- hw2]; exact (Nx.refl w1).alloc _
 have x3 : Nx w2 w3 := by rw [<- hw3]; exact (Nx.refl w2).alloc _
 have x4 : Nx w3 w4 := by rw [<- hw4]; exact (Nx.refl w3).alloc _
 have bp : Box w1 w.heap.size 161 #[.pointer (some ⟨g, 0, none⟩)] := by rw [<- hw1]; exact Box.new w _ _
 have bv : Box w4 w3.heap.size 159 #[ii s, ii c] := by rw [<- hw4]; exact Box.new w3 _ _
 have n8 := asNilP ⟨w.heap.size, 0, none⟩ ⟨g, 0, none⟩ w2 ((bp.nx x2).cell 0)
 have el := asElV ⟨w.heap.size, 0, none⟩ ⟨g, 0, none⟩ w3 (((bp.nx x2).nx x3).cell 0)
 have hg2 := (hg.nx x1).nx x2
 have b4 := (((ht.nx x1).nx x2).nx x3).nx x4
 have st := asSet g w3.heap.size s c o0 o1 w4 bv.c0 bv.c1 b4
 unfold Et at hg2
 have z1 : w1.heap.size = w.heap.size + 1 := by rw [<- hw1]; simp
 have z2 : w2.heap.size = w.heap.size + 1 + 1 := by rw [<- hw2, <- z1]; simp
 have z3 : w3.heap.size = w.heap.size + 1 + 1 + 1 := by rw [<- hw3, <- z2]; simp
 have q2 : Box w2 (w.heap.size + 1) 213 #[.pointer (some ⟨9, 161, none⟩), .pointer (some ⟨w.heap.size, 0, none⟩), .int .u64 150] := by rw [<- z1, <- hw2]; exact Box.new w1 _ _
 have q3 : Box w3 (w.heap.size + 1 + 1) 213 #[.pointer (some ⟨9, 161, none⟩), .pointer (some ⟨w.heap.size, 0, none⟩), .int .u64 150] := by rw [<- z2, <- hw3]; exact Box.new w2 _ _
 obtain ⟨r0, r1, r2⟩ := q2.d3
 obtain ⟨t0, t1, t2⟩ := q3.d3
 rw [z3] at st
 go_enter func122, ntmps122
 go_wp2
 refine wp_loop_rounds 1 ?_
 rw [rounds_succ]
 go_wp2
 go_ret
 exact ⟨rfl, ((Rg.of_nx (((x1.trans x2).trans x3).trans x4)).setCell (p := ⟨g, 0, none⟩) nle (by simp) _).setCell (p := ⟨g, 1, none⟩) nle (by simp) _, (b4.set0 _).set1 _⟩
end
section
open Go.RowKit
theorem findLast_in {ws : List (Int × BA)} {a : Nat} : ∀ {k : Nat} {s : BA}, findLast ws a k = some s -> k <= ws.length -> ∃ x, (x, s) ∈ ws
 | 0, s, h, _ => by cases h
 | k + 1, s, h, hk => by
   unfold findLast at h
   split at h
   . injection h with h
     have hk' : k < ws.length := oM
     refine ⟨(ws.getD k (0, ByteArray.empty)).1, ?_⟩
     rw [<- h, gdE, List.getElem?_eq_getElem hk', Option.getD_some]
     exact List.getElem_mem hk'
   . exact findLast_in h oM
theorem readP_size {ss : List BA} {ws : List (Int × BA)} (h : diskB ss ws = true) (a : Nat) : (readP ss ws a).size <= 300 := by
 obtain ⟨_, _, h3, h4⟩ := diskB_len64 h
 unfold readP
 cases hf : findLast ws a ws.length with
 | some s =>
   obtain ⟨x, hx⟩ := findLast_in hf nle
   have h5 := List.all_eq_true.1 h4 _ hx
   unfold wOk sOk at h5
   simp only [Bool.and_eq_true, decide_eq_true_eq] at h5
   exact h5.2
 | none =>
   rw [Option.getD_none]
   by_cases ha : a < ss.length
   . rw [gdE, List.getElem?_eq_getElem ha, Option.getD_some]
     have h5 := List.all_eq_true.1 h3 _ (List.getElem_mem ha)
     unfold sOk at h5
     simpa using h5
   . rw [gdE, List.getElem?_eq_none oM]; simp
theorem superIn_c (A A2 : Option Addr) (n c n2 c2 B a : Nat) (ss : List BA) (ws : List (Int × BA)) (w : World) (a0 a1 : Addr) (h : Strs w B A n ss) (h2 : Wrs w B A2 n2 ws) (hB : B <= w.heap.size) (ha : a < n) (hn : n <= 1048576) (hn2 : n2 <= 1048576) (hr : (readP ss ws a).size <= 65536) (hE : Er w a0 a1) (hM : Mx w) :
 Calls Tryz.prog 124 #[.agg #[sC A n c, sC A2 n2 c2], ii a] w (RetSU w (rdU (readP ss ws a)) (.iface 159 (.agg #[ii a, ii 19])) .nilIface) := by
 have b0 : Box ((w.alloc (.cells #[sC A n c, sC A2 n2 c2] 35)).alloc (.cells #[ii 0, ii 0, ii 0, ii 0, nsl, nsl] 26)) (w.heap.size + 1) 26 #[ii 0, ii 0, ii 0, ii 0, nsl, nsl] := by have := Box.new (w.alloc (.cells #[sC A n c, sC A2 n2 c2] 35)) 26 #[ii 0, ii 0, ii 0, ii 0, nsl, nsl]; rwa [World.size_alloc] at this
 have hx0 := ((Nx.refl w).alloc (.cells #[sC A n c, sC A2 n2 c2] 35)).alloc (.cells #[ii 0, ii 0, ii 0, ii 0, nsl, nsl] 26)
 go_enter func124, ntmps124
 go_wp2_with fail
 generalize (w.alloc (.cells #[sC A n c, sC A2 n2 c2] 35)).alloc (.cells #[ii 0, ii 0, ii 0, ii 0, nsl, nsl] 26) = W at *
 obtain ⟨gR, Hg⟩ := nM (w.heap.size + 1)
 have hgR : w.heap.size <= gR := by have := Hg.out; omega
 rw [Hg.out] at b0 ⊢
 have hgl := b0.lt
 refine (newest_c A A2 n c n2 c2 B a ss ws _ (h.below hx0 hB) (h2.below hx0 hB) (ntr hB hx0.size) ha hn hn2).mono ?_
 rintro e w1 ⟨rfl, hnx1⟩
 obtain ⟨x, Hx⟩ := nM (readP ss ws a)
 rw [Hx.out] at hr ⊢
 have hx1 := hx0.trans hnx1
 have b1 := b0.nx hnx1
 have hgl1 : gR < w1.heap.size := b1.lt
 clear b0 hx0 hnx1
 go_wp2_with fail
 refine (superOfText_c x _ a0 a1 hr (hE.nx hx1) (hM.nx hx1)).mono ?_
 rintro e w2 ⟨hnx2, h1, h2'⟩
 have b2 := b1.nx hnx2
 have hx2 := hx1.trans hnx2
 clear b1 hx1 hnx2
 have hlt := b2.lt
 cases hu : rdU x with
 | none =>
   obtain rfl := h1 hu
   have HF : Hid (rdU (readP ss ws a) = none) := qh (by rw [Hx.out]; exact hu)
   clear h1 h2' hu
   obtain ⟨u0, u1, u2, u3, u4, u5⟩ := b2.d6
   have f0 := b2.frozen 0
   have f1 := b2.frozen 1
   have f2 := b2.frozen 2
   have f3 := b2.frozen 3
   have f4 := b2.frozen 4
   have f5 := b2.frozen 5
   go_wp2
   have qx := ((put6_box b2 (ii 0) (ii 0) (ii 0) (ii 0) (nsl) (nsl)).alloc (.cells #[ii 0, ii 0, ii 0, ii 0, nsl, nsl] 26))
   have hnf := ((put6_nx hx2 (hgR) (ii 0) (ii 0) (ii 0) (ii 0) (nsl) (nsl)).alloc (.cells #[ii 0, ii 0, ii 0, ii 0, nsl, nsl] 26))
   change bodyPost _ _ _ _ _ (World.alloc (put6 w2 gR (ii 0) (ii 0) (ii 0) (ii 0) (nsl) (nsl)) (.cells #[ii 0, ii 0, ii 0, ii 0, nsl, nsl] 26))
   change Box (World.alloc (put6 w2 gR (ii 0) (ii 0) (ii 0) (ii 0) (nsl) (nsl)) (.cells #[ii 0, ii 0, ii 0, ii 0, nsl, nsl] 26)) _ _ _ at qx
   generalize World.alloc (put6 w2 gR (ii 0) (ii 0) (ii 0) (ii 0) (nsl) (nsl)) (.cells #[ii 0, ii 0, ii 0, ii 0, nsl, nsl] 26) = Wf at *
   obtain ⟨g0, g1, g2, g3, g4, g5⟩ := qx.d6
   exact bodyPost_ret (v := .tuple #[.agg #[ii 0, ii 0, ii 0, ii 0, nsl, nsl], .iface 159 (.agg #[ii a, ii 19])]) (by simp [results, results124, go_sem, g0, g1, g2, g3, g4, g5]) rfl (RetSU.no HF.out hnf)
 | some u =>
   obtain ⟨g, b, p, q, xs, ms⟩ := u
   obtain ⟨Ax, cx, Am, cm, he, hcc, hS1, hM1⟩ := h2' _ hu
   replace he : e = .returned (.tuple #[.agg #[ii g, ii b, ii p, ii q, sC Ax xs.length cx, sC Am ms.length cm], .nilIface]) := he
   replace hS1 : SlI w2 w1.heap.size Ax xs := hS1
   replace hM1 : SlM w2 w1.heap.size Am ms := hM1
   replace hcc : xs.length <= cx := hcc
   have HCC := qh hcc
   have HF : Hid (rdU (readP ss ws a) = some (g, b, p, q, xs, ms)) := qh (by rw [Hx.out]; exact hu)
   subst he
   clear h1 h2' hu hcc
   obtain ⟨u0, u1, u2, u3, u4, u5⟩ := b2.d6
   have f0 := b2.frozen 0
   have f1 := b2.frozen 1
   have f2 := b2.frozen 2
   have f3 := b2.frozen 3
   have f4 := b2.frozen 4
   have f5 := b2.frozen 5
   go_wp2
   have qx := ((put6_box b2 (ii g) (ii b) (ii p) (ii q) (sC Ax xs.length cx) (sC Am ms.length cm)).alloc (.cells #[ii g, ii b, ii p, ii q, sC Ax xs.length cx, sC Am ms.length cm] 26))
   have hnf := ((put6_nx hx2 (hgR) (ii g) (ii b) (ii p) (ii q) (sC Ax xs.length cx) (sC Am ms.length cm)).alloc (.cells #[ii g, ii b, ii p, ii q, sC Ax xs.length cx, sC Am ms.length cm] 26))
   have hsf := ((hS1.pt6 hgl1 (ii g) (ii b) (ii p) (ii q) (sC Ax xs.length cx) (sC Am ms.length cm)).nx ((Nx.refl _).alloc (.cells #[ii g, ii b, ii p, ii q, sC Ax xs.length cx, sC Am ms.length cm] 26)))
   change Sl (World.alloc (put6 w2 gR (ii g) (ii b) (ii p) (ii q) (sC Ax xs.length cx) (sC Am ms.length cm)) (.cells #[ii g, ii b, ii p, ii q, sC Ax xs.length cx, sC Am ms.length cm] 26)) _ _ _ _ _ at hsf
   have hmf := ((hM1.pt6 hgl1 (ii g) (ii b) (ii p) (ii q) (sC Ax xs.length cx) (sC Am ms.length cm)).nx ((Nx.refl _).alloc (.cells #[ii g, ii b, ii p, ii q, sC Ax xs.length cx, sC Am ms.length cm] 26)))
   change Sl (World.alloc (put6 w2 gR (ii g) (ii b) (ii p) (ii q) (sC Ax xs.length cx) (sC Am ms.length cm)) (.cells #[ii g, ii b, ii p, ii q, sC Ax xs.length cx, sC Am ms.length cm] 26)) _ _ _ _ _ at hmf
   change bodyPost _ _ _ _ _ (World.alloc (put6 w2 gR (ii g) (ii b) (ii p) (ii q) (sC Ax xs.length cx) (sC Am ms.length cm)) (.cells #[ii g, ii b, ii p, ii q, sC Ax xs.length cx, sC Am ms.length cm] 26))
   change Box (World.alloc (put6 w2 gR (ii g) (ii b) (ii p) (ii q) (sC Ax xs.length cx) (sC Am ms.length cm)) (.cells #[ii g, ii b, ii p, ii q, sC Ax xs.length cx, sC Am ms.length cm] 26)) _ _ _ at qx
   generalize World.alloc (put6 w2 gR (ii g) (ii b) (ii p) (ii q) (sC Ax xs.length cx) (sC Am ms.length cm)) (.cells #[ii g, ii b, ii p, ii q, sC Ax xs.length cx, sC Am ms.length cm] 26) = Wf at *
   obtain ⟨hmf0, hmf1, hmf2, hmf3, hmf4, hmf5⟩ := qx.d6
   exact bodyPost_ret (v := .tuple #[.agg #[ii g, ii b, ii p, ii q, sC Ax xs.length cx, sC Am ms.length cm], .nilIface]) (by simp [results, results124, go_sem, hmf0, hmf1, hmf2, hmf3, hmf4, hmf5]) rfl (RetSU.yes HF.out HCC.out (hsf.low oM) (hmf.low oM) hnf)
theorem slotCode_c (s k : Int) (w : World) (hE : Et w) : Calls Tryz.prog 53 #[.iface 159 (.agg #[ii s, ii k])] w fun e w' => e = .returned (ii k) /\ Nx w w' := by
 have b0 := Box.new w 159 #[ii 0, ii 0]
 have hx0 := (Nx.refl w).alloc (.cells #[ii 0, ii 0] 159)
 go_enter func53, ntmps53
 go_wp2_with fail
 generalize w.alloc (.cells #[ii 0, ii 0] 159) = W at *
 refine (as_hit s k w.heap.size _ _ _ (hE.nx hx0) b0).mono ?_
 rintro e w1 ⟨rfl, hrg, b1⟩
 have y1 := b1.c1
 go_wp2
 go_ret
 exact ⟨rfl, Rg.nx_of hx0 hrg nle⟩
def vU (u : U6) (A : Option Addr) (c : Nat) (A2 : Option Addr) (c2 : Nat) : Value := .agg #[ii u.1, ii u.2.1, ii u.2.2.1, ii u.2.2.2.1, sC A u.2.2.2.2.1.length c, sC A2 u.2.2.2.2.2.length c2]
def FitU (w : World) (lo : Nat) (u : U6) (A : Option Addr) (c : Nat) (A2 : Option Addr) : Prop := u.2.2.2.2.1.length <= c /\ SlI w lo A u.2.2.2.2.1 /\ SlM w lo A2 u.2.2.2.2.2
def slE (a k : Int) : Value := .iface 159 (.agg #[ii a, ii k])
def RetB2 (w : World) (o0 o1 : Option U6) (e : Ending) (w' : World) : Prop :=
 Nx w w' /\ (o0 = none -> e = .returned (.tuple #[.agg #[ii 0, ii 0, ii 0, ii 0, nsl, nsl], .agg #[ii 0, ii 0, ii 0, ii 0, nsl, nsl], slE 0 19])) /\ (∀ q, o0 = some q -> o1 = none -> e = .returned (.tuple #[.agg #[ii 0, ii 0, ii 0, ii 0, nsl, nsl], .agg #[ii 0, ii 0, ii 0, ii 0, nsl, nsl], slE 1 19])) /\
 ∀ q r, o0 = some q -> o1 = some r -> ∃ A c A2 c2 A3 c3 A4 c4, e = .returned (.tuple #[vU q A c A2 c2, vU r A3 c3 A4 c4, .nilIface]) /\ FitU w' w.heap.size q A c A2 /\ FitU w' w.heap.size r A3 c3 A4
theorem bothSupers_c (A A2 : Option Addr) (n c n2 c2 B : Nat) (ss : List BA) (ws : List (Int × BA)) (w : World) (a0 a1 : Addr) (h : Strs w B A n ss) (h2 : Wrs w B A2 n2 ws) (hB : B <= w.heap.size) (ha : 1 < n) (hn : n <= 1048576) (hn2 : n2 <= 1048576) (hr0 : (readP ss ws 0).size <= 65536) (hr1 : (readP ss ws 1).size <= 65536) (hE : Er w a0 a1) (hM : Mx w) :
 Calls Tryz.prog 121 #[.agg #[sC A n c, sC A2 n2 c2]] w (RetB2 w (rdU (readP ss ws 0)) (rdU (readP ss ws 1))) := by
 have b0 : Box (((w.alloc (.cells #[sC A n c, sC A2 n2 c2] 35)).alloc (.cells #[ii 0, ii 0, ii 0, ii 0, nsl, nsl] 26)).alloc (.cells #[ii 0, ii 0, ii 0, ii 0, nsl, nsl] 26)) (w.heap.size + 1) 26 #[ii 0, ii 0, ii 0, ii 0, nsl, nsl] := by have := Box.new (w.alloc (.cells #[sC A n c, sC A2 n2 c2] 35)) 26 #[ii 0, ii 0, ii 0, ii 0, nsl, nsl]; rw [World.size_alloc] at this; exact this.alloc _
 have d0 : Box (((w.alloc (.cells #[sC A n c, sC A2 n2 c2] 35)).alloc (.cells #[ii 0, ii 0, ii 0, ii 0, nsl, nsl] 26)).alloc (.cells #[ii 0, ii 0, ii 0, ii 0, nsl, nsl] 26)) (w.heap.size + 1 + 1) 26 #[ii 0, ii 0, ii 0, ii 0, nsl, nsl] := by have := Box.new ((w.alloc (.cells #[sC A n c, sC A2 n2 c2] 35)).alloc (.cells #[ii 0, ii 0, ii 0, ii 0, nsl, nsl] 26)) 26 #[ii 0, ii 0, ii 0, ii 0, nsl, nsl]; rwa [World.size_alloc, World.size_alloc] at this
 have e0 : Box (((w.alloc (.cells #[sC A n c, sC A2 n2 c2] 35)).alloc (.cells #[ii 0, ii 0, ii 0, ii 0, nsl, nsl] 26)).alloc (.cells #[ii 0, ii 0, ii 0, ii 0, nsl, nsl] 26)) w.heap.size 35 #[sC A n c, sC A2 n2 c2] := ((Box.new w _ _).alloc _).alloc _
 have hx0 := (((Nx.refl w).alloc (.cells #[sC A n c, sC A2 n2 c2] 35)).alloc (.cells #[ii 0, ii 0, ii 0, ii 0, nsl, nsl] 26)).alloc (.cells #[ii 0, ii 0, ii 0, ii 0, nsl, nsl] 26)
 go_enter func121, ntmps121
 go_wp2_with fail
 generalize ((w.alloc (.cells #[sC A n c, sC A2 n2 c2] 35)).alloc (.cells #[ii 0, ii 0, ii 0, ii 0, nsl, nsl] 26)).alloc (.cells #[ii 0, ii 0, ii 0, ii 0, nsl, nsl] 26) = W at *
 obtain ⟨gR, Hg⟩ := nM (w.heap.size + 1)
 obtain ⟨gS, HgS⟩ := nM (w.heap.size + 1 + 1)
 have hgR : w.heap.size <= gR := by have := Hg.out; omega
 have hgS : w.heap.size <= gS := by have := HgS.out; omega
 have hne : gR ≠ gS := by have := Hg.out; have := HgS.out; omega
 have hneD : w.heap.size ≠ gR := by have := Hg.out; omega
 rw [HgS.out, Hg.out]
 rw [HgS.out] at d0
 rw [Hg.out] at b0
 have hltR := b0.lt
 have hltS := d0.lt
 refine (superIn_c A A2 n c n2 c2 B 0 ss ws _ a0 a1 (h.below hx0 hB) (h2.below hx0 hB) (ntr hB hx0.size) oM hn hn2 hr0 (hE.nx hx0) (hM.nx hx0)).mono ?_
 rintro e w1 ⟨hnx1, h1, h2'⟩
 have b1 := b0.nx hnx1
 have d1 := d0.nx hnx1
 have e1 := e0.nx hnx1
 have hx1 := hx0.trans hnx1
 have hsz1 := hnx1.size
 have hlt := b1.lt
 have hlt2 := d1.lt
 clear b0 d0 e0 hx0 hnx1
 cases hu : rdU (readP ss ws 0) with
 | none =>
   obtain rfl := h1 hu
   have HU0 := qh hu
   clear h1 h2' hu
   obtain ⟨u0, u1, u2, u3, u4, u5⟩ := b1.d6
   have f0 := b1.frozen 0
   have f1 := b1.frozen 1
   have f2 := b1.frozen 2
   have f3 := b1.frozen 3
   have f4 := b1.frozen 4
   have f5 := b1.frozen 5
   obtain ⟨y0, y1, y2, y3, y4, y5⟩ := d1.d6
   have l0 := d1.frozen 0
   have l1 := d1.frozen 1
   have l2 := d1.frozen 2
   have l3 := d1.frozen 3
   have l4 := d1.frozen 4
   have l5 := d1.frozen 5
   go_wp2
   have qx := ((put6_box (put6_box b1 (ii 0) (ii 0) (ii 0) (ii 0) (nsl) (nsl)) (ii 0) (ii 0) (ii 0) (ii 0) (nsl) (nsl)).far6 hne (ii 0) (ii 0) (ii 0) (ii 0) (nsl) (nsl))
   have qy := (put6_box ((d1.far6 hne.symm (ii 0) (ii 0) (ii 0) (ii 0) (nsl) (nsl)).far6 hne.symm (ii 0) (ii 0) (ii 0) (ii 0) (nsl) (nsl)) (ii 0) (ii 0) (ii 0) (ii 0) (nsl) (nsl))
   have hnf := (put6_nx (put6_nx (put6_nx hx1 hgR (ii 0) (ii 0) (ii 0) (ii 0) (nsl) (nsl)) hgR (ii 0) (ii 0) (ii 0) (ii 0) (nsl) (nsl)) hgS (ii 0) (ii 0) (ii 0) (ii 0) (nsl) (nsl))
   change bodyPost _ _ _ _ _ (put6 (put6 (put6 w1 gR (ii 0) (ii 0) (ii 0) (ii 0) (nsl) (nsl)) gR (ii 0) (ii 0) (ii 0) (ii 0) (nsl) (nsl)) gS (ii 0) (ii 0) (ii 0) (ii 0) (nsl) (nsl))
   change Box (put6 (put6 (put6 w1 gR (ii 0) (ii 0) (ii 0) (ii 0) (nsl) (nsl)) gR (ii 0) (ii 0) (ii 0) (ii 0) (nsl) (nsl)) gS (ii 0) (ii 0) (ii 0) (ii 0) (nsl) (nsl)) _ _ _ at qx
   change Box (put6 (put6 (put6 w1 gR (ii 0) (ii 0) (ii 0) (ii 0) (nsl) (nsl)) gR (ii 0) (ii 0) (ii 0) (ii 0) (nsl) (nsl)) gS (ii 0) (ii 0) (ii 0) (ii 0) (nsl) (nsl)) _ _ _ at qy
   generalize (put6 (put6 (put6 w1 gR (ii 0) (ii 0) (ii 0) (ii 0) (nsl) (nsl)) gR (ii 0) (ii 0) (ii 0) (ii 0) (nsl) (nsl)) gS (ii 0) (ii 0) (ii 0) (ii 0) (nsl) (nsl)) = Wf at *
   obtain ⟨k0, k1, k2, k3, k4, k5⟩ := qx.d6
   obtain ⟨j0, j1, j2, j3, j4, j5⟩ := qy.d6
   exact bodyPost_ret (v := .tuple #[.agg #[ii 0, ii 0, ii 0, ii 0, nsl, nsl], .agg #[ii 0, ii 0, ii 0, ii 0, nsl, nsl], .iface 159 (.agg #[ii 0, ii 19])]) (by simp [results, results121, go_sem, k0, k1, k2, k3, k4, k5, j0, j1, j2, j3, j4, j5]) rfl ⟨hnf, (fun _ => rfl), (fun q h => by rw [HU0.out] at h; cases h), fun q r h => by rw [HU0.out] at h; cases h⟩
 | some u =>
   obtain ⟨g0, b0, p0, q0, xs0, ms0⟩ := u
   obtain ⟨Ax0, cx0, Am0, cm0, he, hcc, hS1, hM1⟩ := h2' _ hu
   replace he : e = .returned (.tuple #[.agg #[ii g0, ii b0, ii p0, ii q0, sC Ax0 xs0.length cx0, sC Am0 ms0.length cm0], .nilIface]) := he
   replace hS1 : SlI w1 W.heap.size Ax0 xs0 := hS1
   replace hM1 : SlM w1 W.heap.size Am0 ms0 := hM1
   replace hcc : xs0.length <= cx0 := hcc
   have HCC0 := qh hcc
   have HU0 := qh hu
   subst he
   clear h1 h2' hu hcc
   obtain ⟨z0, z1⟩ : w1.cell? ⟨w.heap.size, 0, none⟩ = some (sC A n c) /\ w1.cell? ⟨w.heap.size, 1, none⟩ = some (sC A2 n2 c2) := ⟨e1.c0, e1.c1⟩
   obtain ⟨u0, u1, u2, u3, u4, u5⟩ := b1.d6
   have f0 := b1.frozen 0
   have f1 := b1.frozen 1
   have f2 := b1.frozen 2
   have f3 := b1.frozen 3
   have f4 := b1.frozen 4
   have f5 := b1.frozen 5
   go_wp2_with fail
   have b2 := put6_box b1 (ii g0) (ii b0) (ii p0) (ii q0) (sC Ax0 xs0.length cx0) (sC Am0 ms0.length cm0)
   have d2 := d1.far6 hne.symm (ii g0) (ii b0) (ii p0) (ii q0) (sC Ax0 xs0.length cx0) (sC Am0 ms0.length cm0)
   have e2 := e1.far6 hneD (ii g0) (ii b0) (ii p0) (ii q0) (sC Ax0 xs0.length cx0) (sC Am0 ms0.length cm0)
   have hx2 := put6_nx hx1 hgR (ii g0) (ii b0) (ii p0) (ii q0) (sC Ax0 xs0.length cx0) (sC Am0 ms0.length cm0)
   have hS2 := hS1.pt6 hltR (ii g0) (ii b0) (ii p0) (ii q0) (sC Ax0 xs0.length cx0) (sC Am0 ms0.length cm0)
   have hM2 := hM1.pt6 hltR (ii g0) (ii b0) (ii p0) (ii q0) (sC Ax0 xs0.length cx0) (sC Am0 ms0.length cm0)
   have hsz2 : W.heap.size <= (put6 w1 gR (ii g0) (ii b0) (ii p0) (ii q0) (sC Ax0 xs0.length cx0) (sC Am0 ms0.length cm0)).heap.size := by simp [put6, World.setCell]; exact hsz1
   clear b1 d1 e1 hx1 hS1 hM1 z0 z1
   clear u0 u1 u2 u3 u4 u5 f0 f1 f2 f3 f4 f5
   change Calls _ _ _ (put6 w1 gR (ii g0) (ii b0) (ii p0) (ii q0) (sC Ax0 xs0.length cx0) (sC Am0 ms0.length cm0)) _
   generalize put6 w1 gR (ii g0) (ii b0) (ii p0) (ii q0) (sC Ax0 xs0.length cx0) (sC Am0 ms0.length cm0) = w2 at *
   refine (superIn_c A A2 n c n2 c2 B 1 ss ws _ a0 a1 (h.below hx2 hB) (h2.below hx2 hB) (ntr hB hx2.size) oM hn hn2 hr1 (hE.nx hx2) (hM.nx hx2)).mono ?_
   rintro e w3 ⟨hnx3, h1, h2'⟩
   have b3 := b2.nx hnx3
   have d3 := d2.nx hnx3
   have hx3 := hx2.trans hnx3
   have hS3 := hS2.nx hnx3
   have hM3 := hM2.nx hnx3
   have hltR2 := b2.lt
   have hltS2 := d2.lt
   clear b2 d2 e2 hx2 hS2 hM2
   cases hv : rdU (readP ss ws 1) with
   | none =>
     obtain rfl := h1 hv
     have HU1 := qh hv
     clear h1 h2' hv
     obtain ⟨u0, u1, u2, u3, u4, u5⟩ := b3.d6
     have f0 := b3.frozen 0
     have f1 := b3.frozen 1
     have f2 := b3.frozen 2
     have f3 := b3.frozen 3
     have f4 := b3.frozen 4
     have f5 := b3.frozen 5
     obtain ⟨y0, y1, y2, y3, y4, y5⟩ := d3.d6
     have l0 := d3.frozen 0
     have l1 := d3.frozen 1
     have l2 := d3.frozen 2
     have l3 := d3.frozen 3
     have l4 := d3.frozen 4
     have l5 := d3.frozen 5
     go_wp2
     have qx := ((put6_box (b3.far6 hne (ii 0) (ii 0) (ii 0) (ii 0) (nsl) (nsl)) (ii 0) (ii 0) (ii 0) (ii 0) (nsl) (nsl)).far6 hne (ii 0) (ii 0) (ii 0) (ii 0) (nsl) (nsl))
     have qy := (put6_box ((put6_box d3 (ii 0) (ii 0) (ii 0) (ii 0) (nsl) (nsl)).far6 hne.symm (ii 0) (ii 0) (ii 0) (ii 0) (nsl) (nsl)) (ii 0) (ii 0) (ii 0) (ii 0) (nsl) (nsl))
     have hnf := (put6_nx (put6_nx (put6_nx hx3 hgS (ii 0) (ii 0) (ii 0) (ii 0) (nsl) (nsl)) hgR (ii 0) (ii 0) (ii 0) (ii 0) (nsl) (nsl)) hgS (ii 0) (ii 0) (ii 0) (ii 0) (nsl) (nsl))
     change bodyPost _ _ _ _ _ (put6 (put6 (put6 w3 gS (ii 0) (ii 0) (ii 0) (ii 0) (nsl) (nsl)) gR (ii 0) (ii 0) (ii 0) (ii 0) (nsl) (nsl)) gS (ii 0) (ii 0) (ii 0) (ii 0) (nsl) (nsl))
     change Box (put6 (put6 (put6 w3 gS (ii 0) (ii 0) (ii 0) (ii 0) (nsl) (nsl)) gR (ii 0) (ii 0) (ii 0) (ii 0) (nsl) (nsl)) gS (ii 0) (ii 0) (ii 0) (ii 0) (nsl) (nsl)) _ _ _ at qx
     change Box (put6 (put6 (put6 w3 gS (ii 0) (ii 0) (ii 0) (ii 0) (nsl) (nsl)) gR (ii 0) (ii 0) (ii 0) (ii 0) (nsl) (nsl)) gS (ii 0) (ii 0) (ii 0) (ii 0) (nsl) (nsl)) _ _ _ at qy
     generalize (put6 (put6 (put6 w3 gS (ii 0) (ii 0) (ii 0) (ii 0) (nsl) (nsl)) gR (ii 0) (ii 0) (ii 0) (ii 0) (nsl) (nsl)) gS (ii 0) (ii 0) (ii 0) (ii 0) (nsl) (nsl)) = Wf at *
     obtain ⟨k0, k1, k2, k3, k4, k5⟩ := qx.d6
     obtain ⟨j0, j1, j2, j3, j4, j5⟩ := qy.d6
     exact bodyPost_ret (v := .tuple #[.agg #[ii 0, ii 0, ii 0, ii 0, nsl, nsl], .agg #[ii 0, ii 0, ii 0, ii 0, nsl, nsl], .iface 159 (.agg #[ii 1, ii 19])]) (by simp [results, results121, go_sem, k0, k1, k2, k3, k4, k5, j0, j1, j2, j3, j4, j5]) rfl ⟨hnf, (fun h => by rw [HU0.out] at h; cases h), (fun q _ _ => rfl), fun q r _ h => by rw [HU1.out] at h; cases h⟩
   | some u =>
     obtain ⟨g1, b1, p1, q1, xs1, ms1⟩ := u
     obtain ⟨Ax1, cx1, Am1, cm1, he, hcc, hS1, hM1⟩ := h2' _ hv
     replace he : e = .returned (.tuple #[.agg #[ii g1, ii b1, ii p1, ii q1, sC Ax1 xs1.length cx1, sC Am1 ms1.length cm1], .nilIface]) := he
     replace hS1 : SlI w3 w2.heap.size Ax1 xs1 := hS1
     replace hM1 : SlM w3 w2.heap.size Am1 ms1 := hM1
     replace hcc : xs1.length <= cx1 := hcc
     have HCC1 := qh hcc
     have HU1 := qh hv
     subst he
     clear h1 h2' hv hcc
     obtain ⟨y0, y1, y2, y3, y4, y5⟩ := d3.d6
     have l0 := d3.frozen 0
     have l1 := d3.frozen 1
     have l2 := d3.frozen 2
     have l3 := d3.frozen 3
     have l4 := d3.frozen 4
     have l5 := d3.frozen 5
     go_wp2_with fail
     have b4 := b3.far6 hne (ii g1) (ii b1) (ii p1) (ii q1) (sC Ax1 xs1.length cx1) (sC Am1 ms1.length cm1)
     have d4 := put6_box d3 (ii g1) (ii b1) (ii p1) (ii q1) (sC Ax1 xs1.length cx1) (sC Am1 ms1.length cm1)
     have hx4 := put6_nx hx3 hgS (ii g1) (ii b1) (ii p1) (ii q1) (sC Ax1 xs1.length cx1) (sC Am1 ms1.length cm1)
     have hS4 := hS3.pt6 hltS (ii g1) (ii b1) (ii p1) (ii q1) (sC Ax1 xs1.length cx1) (sC Am1 ms1.length cm1)
     have hM4 := hM3.pt6 hltS (ii g1) (ii b1) (ii p1) (ii q1) (sC Ax1 xs1.length cx1) (sC Am1 ms1.length cm1)
     have hT4 := hS1.pt6 hltS2 (ii g1) (ii b1) (ii p1) (ii q1) (sC Ax1 xs1.length cx1) (sC Am1 ms1.length cm1)
     have hN4 := hM1.pt6 hltS2 (ii g1) (ii b1) (ii p1) (ii q1) (sC Ax1 xs1.length cx1) (sC Am1 ms1.length cm1)
     clear b3 d3 hx3 hS3 hM3 hS1 hM1
     clear y0 y1 y2 y3 y4 y5 l0 l1 l2 l3 l4 l5
     change Code.wp _ _ _ _ (put6 w3 gS (ii g1) (ii b1) (ii p1) (ii q1) (sC Ax1 xs1.length cx1) (sC Am1 ms1.length cm1))
     generalize put6 w3 gS (ii g1) (ii b1) (ii p1) (ii q1) (sC Ax1 xs1.length cx1) (sC Am1 ms1.length cm1) = w4 at *
     obtain ⟨u0, u1, u2, u3, u4, u5⟩ := b4.d6
     have f0 := b4.frozen 0
     have f1 := b4.frozen 1
     have f2 := b4.frozen 2
     have f3 := b4.frozen 3
     have f4 := b4.frozen 4
     have f5 := b4.frozen 5
     obtain ⟨y0, y1, y2, y3, y4, y5⟩ := d4.d6
     have l0 := d4.frozen 0
     have l1 := d4.frozen 1
     have l2 := d4.frozen 2
     have l3 := d4.frozen 3
     have l4 := d4.frozen 4
     have l5 := d4.frozen 5
     have hlt4 := b4.lt
     have hlt5 := d4.lt
     refine wp_lexA (kf2 (true :: true :: ff :: [])) (fun w' => (CC w' gR 0 (ii g0) /\ CC w' gR 1 (ii b0) /\ CC w' gR 2 (ii p0) /\ CC w' gR 3 (ii q0) /\ CC w' gR 4 (sC Ax0 xs0.length cx0) /\ CC w' gR 5 (sC Am0 ms0.length cm0)) /\ (CC w' gS 0 (ii g1) /\ CC w' gS 1 (ii b1) /\ CC w' gS 2 (ii p1) /\ CC w' gS 3 (ii q1) /\ CC w' gS 4 (sC Ax1 xs1.length cx1) /\ CC w' gS 5 (sC Am1 ms1.length cm1))) (by exact ⟨b4.d6, d4.d6⟩) ?_
     refine hLr ?_
     refine hLc fun K hK => ?_
     go_simp
     refine hK.out _ _ (by exact ⟨((put6_box b4 (ii g0) (ii b0) (ii p0) (ii q0) (sC Ax0 xs0.length cx0) (sC Am0 ms0.length cm0)).drew).d6, ((d4.far6 hne.symm (ii g0) (ii b0) (ii p0) (ii q0) (sC Ax0 xs0.length cx0) (sC Am0 ms0.length cm0)).drew).d6⟩) ?_
     clear hK K
     refine nZ ?_
     refine hLc fun K hK => ?_
     go_simp
     refine hK.out _ _ (by exact ⟨(((put6_box b4 (ii g0) (ii b0) (ii p0) (ii q0) (sC Ax0 xs0.length cx0) (sC Am0 ms0.length cm0)).far6 hne (ii g1) (ii b1) (ii p1) (ii q1) (sC Ax1 xs1.length cx1) (sC Am1 ms1.length cm1)).drew).d6, ((put6_box (d4.far6 hne.symm (ii g0) (ii b0) (ii p0) (ii q0) (sC Ax0 xs0.length cx0) (sC Am0 ms0.length cm0)) (ii g1) (ii b1) (ii p1) (ii q1) (sC Ax1 xs1.length cx1) (sC Am1 ms1.length cm1)).drew).d6⟩) ?_
     clear hK K
     refine nZ ?_
     refine hLr ?_
     refine HL.done ?_
     clear u0 u1 u2 u3 u4 u5 f0 f1 f2 f3 f4 f5
     clear y0 y1 y2 y3 y4 y5 l0 l1 l2 l3 l4 l5
     go_wp2
     have qx := ((put6_box b4 (ii g0) (ii b0) (ii p0) (ii q0) (sC Ax0 xs0.length cx0) (sC Am0 ms0.length cm0)).far6 hne (ii g1) (ii b1) (ii p1) (ii q1) (sC Ax1 xs1.length cx1) (sC Am1 ms1.length cm1)).drew
     have qy := (put6_box (d4.far6 hne.symm (ii g0) (ii b0) (ii p0) (ii q0) (sC Ax0 xs0.length cx0) (sC Am0 ms0.length cm0)) (ii g1) (ii b1) (ii p1) (ii q1) (sC Ax1 xs1.length cx1) (sC Am1 ms1.length cm1)).drew
     have hnf := (put6_nx (put6_nx hx4 hgR (ii g0) (ii b0) (ii p0) (ii q0) (sC Ax0 xs0.length cx0) (sC Am0 ms0.length cm0)) hgS (ii g1) (ii b1) (ii p1) (ii q1) (sC Ax1 xs1.length cx1) (sC Am1 ms1.length cm1)).drew
     have hsA := (((hS4.pt6 hltR (ii g0) (ii b0) (ii p0) (ii q0) (sC Ax0 xs0.length cx0) (sC Am0 ms0.length cm0)).pt6 hltS (ii g1) (ii b1) (ii p1) (ii q1) (sC Ax1 xs1.length cx1) (sC Am1 ms1.length cm1)).nx (Nx.refl _).drew)
     change Sl (World.drew (put6 (put6 w4 gR (ii g0) (ii b0) (ii p0) (ii q0) (sC Ax0 xs0.length cx0) (sC Am0 ms0.length cm0)) gS (ii g1) (ii b1) (ii p1) (ii q1) (sC Ax1 xs1.length cx1) (sC Am1 ms1.length cm1))) _ _ _ _ _ at hsA
     have hsB := (((hM4.pt6 hltR (ii g0) (ii b0) (ii p0) (ii q0) (sC Ax0 xs0.length cx0) (sC Am0 ms0.length cm0)).pt6 hltS (ii g1) (ii b1) (ii p1) (ii q1) (sC Ax1 xs1.length cx1) (sC Am1 ms1.length cm1)).nx (Nx.refl _).drew)
     change Sl (World.drew (put6 (put6 w4 gR (ii g0) (ii b0) (ii p0) (ii q0) (sC Ax0 xs0.length cx0) (sC Am0 ms0.length cm0)) gS (ii g1) (ii b1) (ii p1) (ii q1) (sC Ax1 xs1.length cx1) (sC Am1 ms1.length cm1))) _ _ _ _ _ at hsB
     have hsC := (((hT4.pt6 hltR2 (ii g0) (ii b0) (ii p0) (ii q0) (sC Ax0 xs0.length cx0) (sC Am0 ms0.length cm0)).pt6 hltS2 (ii g1) (ii b1) (ii p1) (ii q1) (sC Ax1 xs1.length cx1) (sC Am1 ms1.length cm1)).nx (Nx.refl _).drew)
     change Sl (World.drew (put6 (put6 w4 gR (ii g0) (ii b0) (ii p0) (ii q0) (sC Ax0 xs0.length cx0) (sC Am0 ms0.length cm0)) gS (ii g1) (ii b1) (ii p1) (ii q1) (sC Ax1 xs1.length cx1) (sC Am1 ms1.length cm1))) _ _ _ _ _ at hsC
     have hsD := (((hN4.pt6 hltR2 (ii g0) (ii b0) (ii p0) (ii q0) (sC Ax0 xs0.length cx0) (sC Am0 ms0.length cm0)).pt6 hltS2 (ii g1) (ii b1) (ii p1) (ii q1) (sC Ax1 xs1.length cx1) (sC Am1 ms1.length cm1)).nx (Nx.refl _).drew)
     change Sl (World.drew (put6 (put6 w4 gR (ii g0) (ii b0) (ii p0) (ii q0) (sC Ax0 xs0.length cx0) (sC Am0 ms0.length cm0)) gS (ii g1) (ii b1) (ii p1) (ii q1) (sC Ax1 xs1.length cx1) (sC Am1 ms1.length cm1))) _ _ _ _ _ at hsD
     change bodyPost _ _ _ _ _ (World.drew (put6 (put6 w4 gR (ii g0) (ii b0) (ii p0) (ii q0) (sC Ax0 xs0.length cx0) (sC Am0 ms0.length cm0)) gS (ii g1) (ii b1) (ii p1) (ii q1) (sC Ax1 xs1.length cx1) (sC Am1 ms1.length cm1)))
     change Box (World.drew (put6 (put6 w4 gR (ii g0) (ii b0) (ii p0) (ii q0) (sC Ax0 xs0.length cx0) (sC Am0 ms0.length cm0)) gS (ii g1) (ii b1) (ii p1) (ii q1) (sC Ax1 xs1.length cx1) (sC Am1 ms1.length cm1))) _ _ _ at qx
     change Box (World.drew (put6 (put6 w4 gR (ii g0) (ii b0) (ii p0) (ii q0) (sC Ax0 xs0.length cx0) (sC Am0 ms0.length cm0)) gS (ii g1) (ii b1) (ii p1) (ii q1) (sC Ax1 xs1.length cx1) (sC Am1 ms1.length cm1))) _ _ _ at qy
     generalize (World.drew (put6 (put6 w4 gR (ii g0) (ii b0) (ii p0) (ii q0) (sC Ax0 xs0.length cx0) (sC Am0 ms0.length cm0)) gS (ii g1) (ii b1) (ii p1) (ii q1) (sC Ax1 xs1.length cx1) (sC Am1 ms1.length cm1))) = Wf at *
     obtain ⟨k0, k1, k2, k3, k4, k5⟩ := qx.d6
     obtain ⟨j0, j1, j2, j3, j4, j5⟩ := qy.d6
     exact bodyPost_ret (v := .tuple #[.agg #[ii g0, ii b0, ii p0, ii q0, sC Ax0 xs0.length cx0, sC Am0 ms0.length cm0], .agg #[ii g1, ii b1, ii p1, ii q1, sC Ax1 xs1.length cx1, sC Am1 ms1.length cm1], .nilIface]) (by simp [results, results121, go_sem, k0, k1, k2, k3, k4, k5, j0, j1, j2, j3, j4, j5]) rfl ⟨hnf, (fun h => by rw [HU0.out] at h; cases h), (fun q _ h => by rw [HU1.out] at h; cases h), fun q r hq hr => by rw [HU0.out] at hq; rw [HU1.out] at hr; cases hq; cases hr; exact ⟨_, _, _, _, _, _, _, _, rfl, ⟨HCC0.out, hsA.low (by have := HgS.out; omega), hsB.low (by have := HgS.out; omega)⟩, ⟨HCC1.out, hsC.low (by have := HgS.out; omega), hsD.low (by have := HgS.out; omega)⟩⟩⟩
end
end Go.Proofs.YtieoiailjjnnoaaGreatDoor
