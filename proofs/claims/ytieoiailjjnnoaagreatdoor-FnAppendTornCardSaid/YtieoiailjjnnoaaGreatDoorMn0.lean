/-
  Texts of the proof, in their order.
  Conditions: those of each.
-/
import Derived.Test.YtieoiailjjnnoaaGreatDoorRows
import Derived.JoinedOf
import Derived.WalkKit
import Derived.ProofKit
import Derived.OpenShut
import Derived.ShutString
import Derived.WalkSpells
import Derived.Lib.Hide
import Derived.Below
import Derived.Laws.OwnMore
import Derived.Deep.Draws
import Derived.Laws.Rows
import Derived.Laws.MakeOwn
import Derived.Laws.Entries
import Derived.OwnWalk
import Derived.Outline
import Derived.Deep.RegionHeld3
import Derived.Maps.Own
import Derived.Deep.QuietTactic
import Derived.BigQuiet
import Derived.Laws.Append
import Derived.Laws.AppendOwn
import Derived.Laws.CopyRow
import Derived.Laws.Cells
import Derived.RegionTactic
import Derived.Deep.RegionLaw
import Derived.IntWalk
namespace Go.Proofs.YtieoiailjjnnoaaGreatDoor.fnAppendTornJ
set_option linter.unusedVariables false
open _root_.Go.Proofs.Tryz
set_option maxRecDepth 100000
set_option maxHeartbeats 16000000
theorem both {a b : Bool} (ha : a = true) (hb : b = true) : (a && b) = true := by rw [ha, hb]; rfl
theorem p0 : (Rows.fnAppendTornRow.wf (OpenSpec.ofChange Rows.fnAppendTornSpec)) = true := by kernel_rfl
theorem p1 : (laidOutB Tryz.checked.prog) = true := by kernel_rfl
theorem p2 : (mapsRowed Tryz.checked.prog) = true := by kernel_rfl
theorem p3 : (Tryz.f5.params.all (Tryz.checked.prog.readableRec ·)) = true := by kernel_rfl
theorem p4 : (namedTie Tryz.checked.prog Rows.fnAppendTornRow.named Rows.fnAppendTornSpec.vars) = true := by kernel_rfl
theorem p5 : ((Rows.fnAppendTornRow.stops == [])) = true := by kernel_rfl
theorem p6 : ((Tryz.checked.prog.stops == [])) = true := by kernel_rfl
theorem p7 : ((Rows.fnAppendTornRow.knobs == [])) = true := by kernel_rfl
theorem p8 : ((Tryz.checked.prog.stopKnobs == [])) = true := by kernel_rfl
theorem p9 : ((Rows.fnAppendTornRow.inPlace == Tryz.checked.prog.inPlace 5)) = true := by kernel_rfl
theorem p10 : ((Rows.fnAppendTornRow.unfollowed == Tryz.checked.prog.unfollowed 5)) = true := by kernel_rfl
theorem p11 : ((Rows.fnAppendTornRow.recurses == Tryz.checked.prog.recurses 5)) = true := by kernel_rfl
theorem p12 : ((Rows.fnAppendTornRow.named == Tryz.checked.prog.varsNamed 5)) = true := by kernel_rfl
theorem p13 : ((Rows.fnAppendTornRow.maps == (Tryz.f5.params.toList ++ Rows.fnAppendTornSpec.plain.varTypes Tryz.checked.prog).any (Tryz.checked.prog.mapsRec ·))) = true := by kernel_rfl
theorem p14 : ((Rows.fnAppendTornRow.ifaces == (Tryz.f5.params.toList ++ Rows.fnAppendTornSpec.plain.varTypes Tryz.checked.prog).any (Tryz.checked.prog.ifacesRec ·))) = true := by kernel_rfl
theorem p15 : ((Rows.fnAppendTornRow.mapsOut == Tryz.checked.prog.mapsAmong Tryz.f5.resultTypes.toList)) = true := by kernel_rfl
theorem p16 : ((Rows.fnAppendTornRow.loops == (Tryz.f5.params.toList ++ Rows.fnAppendTornSpec.plain.varTypes Tryz.checked.prog).any (Tryz.checked.prog.loopsFrom ·))) = true := by kernel_rfl
theorem p17 : ((Rows.fnAppendTornRow.wideKeys == (Tryz.f5.params.toList ++ Rows.fnAppendTornSpec.plain.varTypes Tryz.checked.prog ++ Tryz.f5.resultTypes.toList).any (Tryz.checked.prog.wideKeysFrom ·))) = true := by kernel_rfl
theorem p18 : (Rows.fnAppendTornSpec.vars.all (Tryz.checked.prog.varReadable ·)) = true := by kernel_rfl
theorem p19 : (Tryz.f5.resultTypes.all (fun t => Tryz.checked.prog.readableRec t && decide (t < Tryz.checked.prog.types.size))) = true := by kernel_rfl
theorem p20 : ((Rows.fnAppendTornRow.ifacesOut == Tryz.f5.resultTypes.toList.any (Tryz.checked.prog.ifacesRec ·))) = true := by kernel_rfl
theorem p21 : ((Rows.fnAppendTornRow.loopsOut == Tryz.f5.resultTypes.toList.any (Tryz.checked.prog.loopsFrom ·))) = true := by kernel_rfl
theorem p22 : ((Rows.fnAppendTornRow.plainKeys == Tryz.checked.prog.plainKeys)) = true := by kernel_rfl
theorem p23 : (Rows.fnAppendTornRow.shortTexts.isNone) = true := by kernel_rfl
theorem p24 : (Tryz.checked.prog.stopsHeard) = true := by kernel_rfl
theorem p25 : (Tryz.checked.prog.mayEnter) = true := by kernel_rfl
theorem p26 : ((Rows.fnAppendTornRow.lifted == Tryz.checked.prog.liftsFinal)) = true := by kernel_rfl
theorem p27 : ((Tryz.checked.prog.make == some Rows.fnAppendTornRow.make)) = true := by kernel_rfl
theorem p28 : ((Rows.fnAppendTornRow.kinds == (if Rows.fnAppendTornRow.domain.isEmpty then [] else Tryz.f5.params.toList.map fun t => match Tryz.checked.prog.underlying t with | some (.int k) => some k | _ => none))) = true := by kernel_rfl
theorem p29 : ((Rows.fnAppendTornRow.pinned == Rows.fnAppendTornRow.pinnedBy)) = true := by kernel_rfl
theorem p30 : ((Rows.fnAppendTornRow.veiled == (Tryz.f5.params.toList ++ Rows.fnAppendTornSpec.plain.varTypes Tryz.checked.prog ++ Tryz.f5.resultTypes.toList).any (Tryz.checked.prog.veiledRec ·))) = true := by kernel_rfl
theorem p31 : (Rows.fnAppendTornRow.veiledFits Tryz.checked.prog Tryz.f5.params.toList (Tryz.f5.params.toList ++ Rows.fnAppendTornSpec.plain.varTypes Tryz.checked.prog ++ Tryz.f5.resultTypes.toList)) = true := by kernel_rfl
theorem facts : joinedFacts Tryz.checked.prog 5 Tryz.f5 Rows.fnAppendTornSpec Rows.fnAppendTornRow = true := (both (both (both (both (both (both (both (both (both (both (both (both (both (both (both (both (both (both (both (both (both (both (both (both (both (both (both (both (both (both (both p0 p1) p2) p3) p4) p5) p6) p7) p8) p9) p10) p11) p12) p13) p14) p15) p16) p17) p18) p19) p20) p21) p22) p23) p24) p25) p26) p27) p28) p29) p30) p31)
end Go.Proofs.YtieoiailjjnnoaaGreatDoor.fnAppendTornJ
namespace Go.Proofs.YtieoiailjjnnoaaGreatDoor
set_option linter.unusedVariables false
open _root_.Go.Proofs.Tryz
set_option maxRecDepth 100000
set_option maxHeartbeats 16000000
section
open Go.RowKit
theorem qqA {α : Type _} (l : List α) (i : Nat) (a : α) : l.toArray.setIfInBounds i a = (l.set i a).toArray := List.setIfInBounds_toArray l i a
theorem qqB {α : Type _} {x : α} {xs : List α} {a : α} : (x :: xs).set 0 a = a :: xs := List.set_cons_zero
theorem qqC {α : Type _} {x : α} {xs : List α} {i : Nat} {a : α} : (x :: xs).set (i + 1) a = x :: xs.set i a := List.set_cons_succ
abbrev BA := ByteArray
theorem qh {p : Prop} (h : p) : Hid p := Lib.hid h
theorem nle {n : Nat} : n ≤ n := Nat.le_refl n
theorem ntr {a b c : Nat} (h : a ≤ b) (k : b ≤ c) : a ≤ c := Nat.le_trans h k
theorem gdE {α : Type _} {l : List α} {i : Nat} {a : α} : l.getD i a = l[i]?.getD a := List.getD_eq_getElem?_getD
abbrev ff : Bool := false
abbrev ii (x : Int) : Value := .int .i64 x
abbrev nsl : Value := .slice none 0 0
theorem ret_bool {a b : Bool} (h : a = b) : Ending.returned (.bool a) = .returned (.bool b) := by rw [h]
theorem oM {p : Prop} (h : p := by omega) : p := h
theorem sM {p : Prop} (h : p := by simp; omega) : p := h
theorem dC {p : Prop} (h : p := by decide) : p := h
theorem nM {α : Sort _} (e : α) : ∃ x, Hid (e = x) := ⟨e, Lib.hid rfl⟩
abbrev CC (w : World) (g i : Nat) (v : Value) : Prop := w.cell? ⟨g, i, none⟩ = some v
abbrev kf2 (l : List Bool) : List Bool := ff :: ff :: l
abbrev kf3 (l : List Bool) : List Bool := ff :: ff :: ff :: l
abbrev kf4 (l : List Bool) : List Bool := ff :: ff :: ff :: ff :: l
abbrev kf5 (l : List Bool) : List Bool := ff :: ff :: ff :: ff :: ff :: l
abbrev kf6 (l : List Bool) : List Bool := ff :: ff :: ff :: ff :: ff :: ff :: l
abbrev kf7 (l : List Bool) : List Bool := ff :: ff :: ff :: ff :: ff :: ff :: ff :: l
abbrev kf8 (l : List Bool) : List Bool := ff :: ff :: ff :: ff :: ff :: ff :: ff :: ff :: l
abbrev kf9 (l : List Bool) : List Bool := ff :: ff :: ff :: ff :: ff :: ff :: ff :: ff :: ff :: l
abbrev sC (A : Option Addr) (n c : Nat) : Value := .slice A n c
theorem nZ {p q : Prop} (k : q) (h : q → p := by intro k; (try simp only [Act.put, qqA, qqB, qqC]); exact k) : p := h k
theorem ret_int {a b : Int} (h : a = b) : Ending.returned (ii a) = .returned (ii b) := by rw [h]
abbrev Nx (w w' : World) : Prop := Below w.heap.size w w'
theorem Nx.refl (w : World) : Nx w w := Below.refl _ _
theorem Nx.trans {a b c : World} (h : Nx a b) (k : Nx b c) : Nx a c := Below.trans h (Below.mono k h.size)
theorem Nx.alloc {a w : World} (h : Nx a w) (o : Obj) : Nx a (w.alloc o) := Below.alloc h h.size o
theorem Nx.drew {a w : World} (h : Nx a w) : Nx a w.drew := ⟨h.os, h.tape, h.output, h.size, h.block⟩
theorem Nx.drewN {a w : World} (h : Nx a w) (n : Nat) : Nx a (w.drewN n) := ⟨h.os, h.tape, h.output, h.size, h.block⟩
theorem Nx.drew_r {a w : World} (h : Nx a.drew w) : Nx a w := ⟨h.os, h.tape, h.output, h.size, h.block⟩
def Row (w : World) (B : Nat) (A : Option Addr) (m : Nat) (f : Nat -> Value) : Prop :=
 0 < m -> ∃ b off, A = some ⟨b, off, none⟩ /\ b < B /\ ∀ i, i < m -> w.cell? ⟨b, off + i, none⟩ = some (f i)
theorem Row.keep {w w' : World} {B m : Nat} {A : Option Addr} {f : Nat -> Value} (h : Row w B A m f) (hk : ∀ p : Addr, p.block < B -> w'.cell? p = w.cell? p) : Row w' B A m f := fun hm => by
 obtain ⟨b, off, e, hb, hc⟩ := h hm
 exact ⟨b, off, e, hb, fun i hi => (hk _ hb).trans (hc i hi)⟩
theorem Row.more {w : World} {B B' m : Nat} {A : Option Addr} {f : Nat -> Value} (h : Row w B A m f) (hB : B <= B') : Row w B' A m f := fun hm => by
 obtain ⟨b, off, e, hb, hc⟩ := h hm
 exact ⟨b, off, e, oM, hc⟩
theorem Row.below {w w' : World} {B B' m : Nat} {A : Option Addr} {f : Nat -> Value} (h : Row w B A m f) (hb : Below B' w w') (hB : B <= B') : Row w' B A m f := h.keep fun _ hp => hb.cell oM
def blAt (bs : List Bool) (i : Nat) : Value := .bool (bs.getD i false)
def Bls (w : World) (B : Nat) (A : Option Addr) (n : Nat) (bs : List Bool) : Prop := bs.length = n /\ Row w B A n (blAt bs)
theorem Bls.below {w w' : World} {B B' n : Nat} {A : Option Addr} {bs : List Bool} (h : Bls w B A n bs) (hb : Below B' w w') (hB : B <= B') : Bls w' B A n bs := ⟨h.1, h.2.below hb hB⟩
theorem Bls.more {w : World} {B B' n : Nat} {A : Option Addr} {bs : List Bool} (h : Bls w B A n bs) (hB : B <= B') : Bls w B' A n bs := ⟨h.1, h.2.more hB⟩
theorem Bls.at_ {w : World} {B n k : Nat} {A : Option Addr} {bs : List Bool} (h : Bls w B A n bs) (hk : k < n) :
 ∃ b off, A = some ⟨b, off, none⟩ /\ b < B /\ w.cell? ⟨b, off + k, none⟩ = some (.bool (bs.getD k false)) := by
 obtain ⟨b, off, e, hb, hc⟩ := h.2 oM
 exact ⟨b, off, e, hb, hc k hk⟩
def Own (w : World) (g : Nat) (t : TypeId) (m : Nat) (f : Nat -> Value) : Prop :=
 ∃ cs : Array Value, w.heap[g]? = some (.cells cs t (0, 0)) /\ m <= cs.size /\ ∀ i, i < m -> cs[i]? = some (f i)
section
variable {w w' : World} {g : Nat} {t : TypeId} {m : Nat} {f : Nat -> Value}
theorem Own.lt (h : Own w g t m f) : g < w.heap.size := by
 obtain ⟨cs, h, _⟩ := h
 rcases Nat.lt_or_ge g w.heap.size with hlt | hge
 . exact hlt
 . rw [Array.getElem?_eq_none hge] at h; cases h
theorem Own.cell (h : Own w g t m f) {i : Nat} (hi : i < m) : w.cell? ⟨g, i, none⟩ = some (f i) := by
 obtain ⟨cs, h, _, hc⟩ := h
 exact (cell_of_row w g i cs t (0, 0) h).trans (hc i hi)
theorem Own.frozen (h : Own w g t m f) (i : Nat) : w.frozen? ⟨g, i, none⟩ = false := by
 obtain ⟨cs, h, _⟩ := h
 simp [World.frozen?, h]
theorem Own.of_block (h : Own w g t m f) (hb : w'.heap[g]? = w.heap[g]?) : Own w' g t m f := by
 obtain ⟨cs, h, r⟩ := h
 exact ⟨cs, hb.trans h, r⟩
theorem Own.nx (h : Own w g t m f) (hb : Nx w w') : Own w' g t m f := h.of_block (hb.block g h.lt)
theorem Own.row (h : Own w g t m f) {B : Nat} (hB : g < B) : Row w B (some ⟨g, 0, none⟩) m f := fun _ =>
 ⟨g, 0, rfl, hB, fun i hi => by rw [Nat.zero_add]; exact h.cell hi⟩
theorem Own.set (h : Own w g t m f) {k : Nat} (hk : k < m) (v : Value) : Own (w.setCell ⟨g, k, none⟩ v) g t m (fun i => if i = k then v else f i) := by
 obtain ⟨cs, h, hm, hc⟩ := h
 refine ⟨cs.setIfInBounds k v, ?_, by simpa using hm, fun i hi => ?_⟩
 . simp [World.setCell, Array.getElem?_modify, h]
 . rw [Array.getElem?_setIfInBounds]
   by_cases e : k = i
   . subst e; rw [if_pos rfl, if_pos oM]; simp
   . rw [if_neg e, hc i hi]; show some (f i) = some (if i = k then v else f i); rw [if_neg (fun h : i = k => e h.symm)]
theorem Own.far (h : Own w g t m f) {p : Addr} (hp : g ≠ p.block) (v : Value) : Own (w.setCell p v) g t m f := h.of_block (Below.heap_setCell w p v g hp)
theorem Own.alloc (h : Own w g t m f) (o : Obj) : Own (w.alloc o) g t m f := h.of_block (Below.heap_alloc w o g h.lt)
theorem Own.congr {f' : Nat -> Value} (h : Own w g t m f) (hf : ∀ i, i < m -> f i = f' i) : Own w g t m f' := by
 obtain ⟨cs, h, hm, hc⟩ := h
 exact ⟨cs, h, hm, fun i hi => by rw [<- hf i hi]; exact hc i hi⟩
end
def Fill (w : World) (g : Nat) (t : TypeId) (m k : Nat) (F : Nat -> Value) : Prop := ∃ f, Own w g t m f /\ ∀ i, i < k -> f i = F i
section
variable {w w' : World} {g : Nat} {t : TypeId} {m k : Nat} {f F : Nat -> Value}
theorem Fill.start (h : Own w g t m f) : Fill w g t m 0 F := ⟨f, h, fun i hi => absurd hi oM⟩
theorem Fill.lt (h : Fill w g t m k F) : g < w.heap.size := by
 obtain ⟨f, h, _⟩ := h; exact h.lt
theorem Fill.some_ (h : Fill w g t m k F) {i : Nat} (hi : i < m) : ∃ v, w.cell? ⟨g, i, none⟩ = some v := by
 obtain ⟨f, h, _⟩ := h; exact ⟨_, h.cell hi⟩
theorem Fill.frozen (h : Fill w g t m k F) (i : Nat) : w.frozen? ⟨g, i, none⟩ = false := by
 obtain ⟨f, h, _⟩ := h; exact h.frozen i
theorem Fill.step (h : Fill w g t m k F) (hk : k < m) {v : Value} (hv : v = F k) : Fill (w.setCell ⟨g, k, none⟩ v) g t m (k + 1) F := by
 obtain ⟨f, h, hf⟩ := h
 refine ⟨_, h.set hk v, fun i hi => ?_⟩
 by_cases e : i = k
 . subst e; simp [hv]
 . simp only [if_neg e]; exact hf i oM
theorem Fill.done (h : Fill w g t m m F) : Own w g t m F := by
 obtain ⟨f, h, hf⟩ := h; exact h.congr hf
theorem Fill.nx (h : Fill w g t m k F) (hb : Nx w w') : Fill w' g t m k F := by
 obtain ⟨f, h, hf⟩ := h; exact ⟨f, h.nx hb, hf⟩
theorem Nx.setCell {a w : World} (h : Nx a w) {p : Addr} (hp : a.heap.size <= p.block) (v : Value) : Nx a (w.setCell p v) := Below.setCell h hp v
end
theorem Own.made (w : World) (z : Array Value) (n : Nat) (t : TypeId) : Own (w.alloc (.cells (madeCells z n) t)) w.heap.size t n (fun i => z[i % z.size]!) :=
 ⟨_, heap_alloc_new w _, by rw [size_madeCells]; exact Nat.le_refl _, fun i hi => by simp [madeCells, hi]⟩
theorem run_make_rowN {P : Program} (t e : TypeId) (i : TypeInfo) (z : Value) (ht : P.underlying t = some (.slice e)) (hi : P.info? e = some i) (hz : i.zero = some z)
 (kl kc : IntKind) (n c : Nat) (hnc : n <= c) (hbytes : i.bytes * c <= 281474976710656) (h63 : c <= 9223372036854775807) (w : World) :
 (Instr.makeSlice t (.int kl (n : Int)) (.int kc (c : Int))).run P w = .ok (sC (some ⟨w.heap.size, 0, none⟩) n c) (w.alloc (.cells (madeCells z.cells (c * i.size)) e)) := by
 have hb : (i.bytes : Int) * (c : Int) <= 281474976710656 := by
  have h : ((i.bytes * c : Nat) : Int) <= 281474976710656 := oM
  rwa [Int.natCast_mul] at h
 have hr := run_make (P := P) w t e i z ht hi hz kl kc n c oM oM hb oM
 simp only [Int.toNat_natCast] at hr
 exact hr
structure Rg (lo hi : Nat) (w w' : World) : Prop where
 os : w'.os = w.os
 tape : w'.tape = w.tape
 output : w'.output = w.output
 size : w.heap.size <= w'.heap.size
 block : ∀ k, k < w.heap.size -> (k < lo \/ hi <= k) -> w'.heap[k]? = w.heap[k]?
theorem Rg.of_nx {lo hi : Nat} {w w' : World} (h : Nx w w') : Rg lo hi w w' := ⟨h.os, h.tape, h.output, h.size, fun k hk _ => h.block k hk⟩
theorem Rg.trans {lo hi : Nat} {a b c : World} (h : Rg lo hi a b) (k : Rg lo hi b c) : Rg lo hi a c :=
 ⟨k.os.trans h.os, k.tape.trans h.tape, k.output.trans h.output, ntr h.size k.size, fun i hi' hr => (k.block i (Nat.lt_of_lt_of_le hi' h.size) hr).trans (h.block i hi' hr)⟩
theorem Rg.setCell {lo hi : Nat} {a w : World} (h : Rg lo hi a w) {p : Addr} (h1 : lo <= p.block) (h2 : p.block < hi) (v : Value) : Rg lo hi a (w.setCell p v) :=
 h.trans ⟨rfl, rfl, rfl, by simp [World.setCell], fun k _ hr => Below.heap_setCell _ _ _ _ oM⟩
theorem Rg.below {lo hi : Nat} {w w' : World} (h : Rg lo hi w w') (hB : lo <= w.heap.size) : Below lo w w' := ⟨h.os, h.tape, h.output, h.size, fun k hk => h.block k oM (.inl hk)⟩
theorem Rg.nx_of {lo hi : Nat} {a w w' : World} (h : Nx a w) (k : Rg lo hi w w') (hl : a.heap.size <= lo) : Nx a w' :=
 ⟨k.os.trans h.os, k.tape.trans h.tape, k.output.trans h.output, ntr h.size k.size, fun i hi' => (k.block i (Nat.lt_of_lt_of_le hi' h.size) (.inl oM)).trans (h.block i hi')⟩
theorem Own.rg {lo hi : Nat} {w w' : World} {g : Nat} {t : TypeId} {m : Nat} {f : Nat -> Value} (h : Own w g t m f) (hb : Rg lo hi w w') (hg : g < lo \/ hi <= g) : Own w' g t m f := h.of_block (hb.block g h.lt hg)
theorem Own.ne_type {w : World} {g g' : Nat} {t t' : TypeId} {m m' : Nat} {f f' : Nat -> Value} (h : Own w g t m f) (h' : Own w g' t' m' f') (hne : t' ≠ t) : g' ≠ g := by
 rintro rfl
 obtain ⟨cs, h, _⟩ := h
 obtain ⟨cs', h', _⟩ := h'
 rw [h] at h'
 injection h' with h'
 injection h' with _ ht
 exact hne ht.symm
def Box (w : World) (g : Nat) (t : TypeId) (cs : Array Value) : Prop := w.heap[g]? = some (.cells cs t (0, 0))
section
variable {w w' : World} {g : Nat} {t : TypeId} {cs : Array Value} {v0 v1 : Value}
theorem Box.lt (h : Box w g t cs) : g < w.heap.size := by
 rcases Nat.lt_or_ge g w.heap.size with hlt | hge
 . exact hlt
 . unfold Box at h; rw [Array.getElem?_eq_none hge] at h; cases h
theorem Box.new (w : World) (t : TypeId) (cs : Array Value) : Box (w.alloc (.cells cs t)) w.heap.size t cs := heap_alloc_new w _
theorem Box.alloc (h : Box w g t cs) (o : Obj) : Box (w.alloc o) g t cs := (Below.heap_alloc w o g h.lt).trans h
theorem Box.nx (h : Box w g t cs) (hb : Nx w w') : Box w' g t cs := (hb.block g h.lt).trans h
theorem Box.rg {lo hi : Nat} (h : Box w g t cs) (hb : Rg lo hi w w') (hg : g < lo \/ hi <= g) : Box w' g t cs := (hb.block g h.lt hg).trans h
theorem Box.grown {row : Option Nat} (h : Box w g t cs) (hb : w.grownBy w' row) (hg : some g ≠ row) : Box w' g t cs := (hb.block g h.lt hg).trans h
theorem Box.far (h : Box w g t cs) {p : Addr} (hp : g ≠ p.block) (u : Value) : Box (w.setCell p u) g t cs := (Below.heap_setCell w p u g hp).trans h
theorem Box.cell (h : Box w g t cs) (i : Nat) : w.cell? ⟨g, i, none⟩ = cs[i]? := cell_of_row w g i cs t (0, 0) h
theorem Box.frozen (h : Box w g t cs) (i : Nat) : w.frozen? ⟨g, i, none⟩ = false := by
 unfold Box at h
 simp [World.frozen?, h]
theorem Box.c0 (h : Box w g t #[v0, v1]) : w.cell? ⟨g, 0, none⟩ = some v0 := h.cell 0
theorem Box.c1 (h : Box w g t #[v0, v1]) : w.cell? ⟨g, 1, none⟩ = some v1 := h.cell 1
theorem Box.set0 (h : Box w g t #[v0, v1]) (u : Value) : Box (w.setCell ⟨g, 0, none⟩ u) g t #[u, v1] := by
 unfold Box at h ⊢
 simp [World.setCell, Array.getElem?_modify, h]
theorem Box.set1 (h : Box w g t #[v0, v1]) (u : Value) : Box (w.setCell ⟨g, 1, none⟩ u) g t #[v0, u] := by
 unfold Box at h ⊢
 simp [World.setCell, Array.getElem?_modify, h]
end
def Sl (w : World) (lo : Nat) (A : Option Addr) (t : TypeId) (m : Nat) (f : Nat -> Value) : Prop := 0 < m -> ∃ g, A = some ⟨g, 0, none⟩ /\ lo <= g /\ Own w g t m f
def Sr (w : World) (lo hi : Nat) (A : Option Addr) (t : TypeId) (m : Nat) (f : Nat -> Value) : Prop := 0 < m -> ∃ g, A = some ⟨g, 0, none⟩ /\ lo <= g /\ g < hi /\ Own w g t m f
section
variable {w w' : World} {lo lo' hi : Nat} {A : Option Addr} {t : TypeId} {m : Nat} {f : Nat -> Value}
theorem Sl.none_ (w : World) (lo : Nat) (A : Option Addr) (t : TypeId) (f : Nat -> Value) : Sl w lo A t 0 f := fun h => absurd h oM
theorem Sl.nx (h : Sl w lo A t m f) (hb : Nx w w') : Sl w' lo A t m f := fun hm => by
 obtain ⟨g, e, hl, ho⟩ := h hm; exact ⟨g, e, hl, ho.nx hb⟩
theorem Sl.low (h : Sl w lo A t m f) (hl : lo' <= lo) : Sl w lo' A t m f := fun hm => by
 obtain ⟨g, e, hl2, ho⟩ := h hm; exact ⟨g, e, ntr hl hl2, ho⟩
theorem Sl.row (h : Sl w lo A t m f) : Row w w.heap.size A m f := fun hm => by
 obtain ⟨g, e, hl, ho⟩ := h hm; subst e; exact ho.row ho.lt hm
theorem Sl.sr (h : Sl w lo A t m f) : Sr w lo w.heap.size A t m f := fun hm => by
 obtain ⟨g, e, hl, ho⟩ := h hm; exact ⟨g, e, hl, ho.lt, ho⟩
theorem Sl.own {g : Nat} (h : Own w g t m f) (hg : lo <= g) : Sl w lo (some ⟨g, 0, none⟩) t m f := fun _ => ⟨g, rfl, hg, h⟩
theorem Sl.far (h : Sl w lo A t m f) {p : Addr} (hp : p.block < lo) (v : Value) : Sl (w.setCell p v) lo A t m f := fun hm => by
 obtain ⟨g, e, hl, ho⟩ := h hm; exact ⟨g, e, hl, ho.far oM v⟩
theorem Sl.far_ty (h : Sl w lo A t m f) {p : Addr} {t' : TypeId} {cs : Array Value} (hp : Box w p.block t' cs) (ht : t' ≠ t) (v : Value) : Sl (w.setCell p v) lo A t m f := fun hm => by
 obtain ⟨g, e, hl, ho⟩ := h hm
 refine ⟨g, e, hl, ho.far (fun he => ?_) v⟩
 obtain ⟨cs', hc, _⟩ := ho
 unfold Box at hp
 rw [<- he, hc] at hp
 injection hp with hp
 injection hp with _ hp
 exact ht hp.symm
theorem Sr.sl (h : Sr w lo hi A t m f) : Sl w lo A t m f := fun hm => by
 obtain ⟨g, e, hl, _, ho⟩ := h hm; exact ⟨g, e, hl, ho⟩
theorem Sr.nx (h : Sr w lo hi A t m f) (hb : Nx w w') : Sr w' lo hi A t m f := fun hm => by
 obtain ⟨g, e, hl, hh, ho⟩ := h hm; exact ⟨g, e, hl, hh, ho.nx hb⟩
theorem Sr.rg {a b : Nat} (h : Sr w lo hi A t m f) (hb : Rg a b w w') (hd : hi <= a \/ b <= lo) : Sr w' lo hi A t m f := fun hm => by
 obtain ⟨g, e, hl, hh, ho⟩ := h hm; exact ⟨g, e, hl, hh, ho.rg hb oM⟩
end
theorem Box.set {w : World} {g : Nat} {t : TypeId} {cs : Array Value} (h : Box w g t cs) (i : Nat) (u : Value) : Box (w.setCell ⟨g, i, none⟩ u) g t (cs.setIfInBounds i u) := by
 unfold Box at h ⊢
 simp [World.setCell, Array.getElem?_modify, h]
def put4 (u : World) (g : Nat) (v0 v1 v2 v3 : Value) : World := (((u.setCell ⟨g, 0, none⟩ v0).setCell ⟨g, 1, none⟩ v1).setCell ⟨g, 2, none⟩ v2).setCell ⟨g, 3, none⟩ v3
theorem put4_box {u : World} {g : Nat} {t : TypeId} {a b c d : Value} (hb : Box u g t #[a, b, c, d]) (v0 v1 v2 v3 : Value) : Box (put4 u g v0 v1 v2 v3) g t #[v0, v1, v2, v3] :=
 (((hb.set 0 v0).set 1 v1).set 2 v2).set 3 v3
theorem put4_nx {w u : World} {g : Nat} (hx : Nx w u) (hg : w.heap.size <= g) (v0 v1 v2 v3 : Value) : Nx w (put4 u g v0 v1 v2 v3) :=
 (((hx.setCell (p := ⟨g, 0, none⟩) hg v0).setCell (p := ⟨g, 1, none⟩) hg v1).setCell (p := ⟨g, 2, none⟩) hg v2).setCell (p := ⟨g, 3, none⟩) hg v3
theorem Box.d3 {w : World} {g : Nat} {t : TypeId} {v0 v1 v2 : Value} (h : Box w g t #[v0, v1, v2]) : w.cell? ⟨g, 0, none⟩ = some v0 /\ w.cell? ⟨g, 1, none⟩ = some v1 /\ w.cell? ⟨g, 2, none⟩ = some v2 :=
 ⟨h.cell 0, h.cell 1, h.cell 2⟩
theorem Box.d4 {w : World} {g : Nat} {t : TypeId} {v0 v1 v2 v3 : Value} (h : Box w g t #[v0, v1, v2, v3]) : w.cell? ⟨g, 0, none⟩ = some v0 /\ w.cell? ⟨g, 1, none⟩ = some v1 /\ w.cell? ⟨g, 2, none⟩ = some v2 /\ w.cell? ⟨g, 3, none⟩ = some v3 :=
 ⟨h.cell 0, h.cell 1, h.cell 2, h.cell 3⟩
def inB (lo hi a : Int) : Bool := decide (lo <= a) && decide (a <= hi)
theorem inB_yes {lo hi a : Int} (h : inB lo hi a = true) : lo <= a /\ a <= hi := by
 unfold inB at h; simpa using h
theorem inB_mk {lo hi a : Int} (h1 : lo <= a) (h2 : a <= hi) : inB lo hi a = true := by
 unfold inB; simp [h1, h2]
theorem inB_no {lo hi a : Int} (h : a < lo \/ hi < a) : inB lo hi a = false := by
 unfold inB
 rcases h with h | h
 . rw [decide_eq_false oM]; rfl
 . rw [decide_eq_false (p := a <= hi) oM]; simp
def frameB (p b v t : Int) : Bool := inB 1 999999 p && inB 0 7 b && inB 0 999999 v && inB 0 999999 t
theorem l01In_c (a lo hi : Int) (w : World) : Calls Tryz.prog 106 #[ii a, ii lo, ii hi] w fun e w' => e = .returned (.bool (inB lo hi a)) /\ w = w' := by
 go_enter func106, ntmps106
 go_wp2
 all_goals (go_ret; refine ⟨ret_bool ?_, rfl⟩; unfold inB; rw [Bool.eq_iff_iff]; simp; try omega)
theorem isWithin_c (a lo hi : Int) (w : World) : Calls Tryz.prog 99 #[ii a, ii lo, ii hi] w fun e w' => e = .returned (.bool (inB lo hi a)) /\ w = w' := by
 go_enter func99, ntmps99
 go_wp2
 all_goals (go_ret; refine ⟨ret_bool ?_, rfl⟩; unfold inB; rw [Bool.eq_iff_iff]; simp; try omega)
theorem isPosition_c (a : Int) (w : World) : Calls Tryz.prog 100 #[ii a] w fun e w' => e = .returned (.bool (inB 0 999999 a)) /\ w = w' := by
 go_enter func100, ntmps100
 go_wp2_with (go_at_call 99; refine (isWithin_c _ _ _ _).mono ?_; rintro e w' ⟨rfl, rfl⟩)
 go_ret
 exact ⟨rfl, rfl⟩
theorem isTime_c (a : Int) (w : World) : Calls Tryz.prog 154 #[ii a] w fun e w' => e = .returned (.bool (inB 0 999999 a)) /\ w = w' := by
 go_enter func154, ntmps154
 go_wp2_with (go_at_call 99; refine (isWithin_c _ _ _ _).mono ?_; rintro e w' ⟨rfl, rfl⟩)
 go_ret
 exact ⟨rfl, rfl⟩
theorem isValue_c (a : Int) (w : World) : Calls Tryz.prog 153 #[ii a] w fun e w' => e = .returned (.bool (inB 0 999999 a)) /\ w = w' := by
 go_enter func153, ntmps153
 go_wp2_with (go_at_call 99; refine (isWithin_c _ _ _ _).mono ?_; rintro e w' ⟨rfl, rfl⟩)
 go_ret
 exact ⟨rfl, rfl⟩
theorem isBlock_c (a : Int) (w : World) : Calls Tryz.prog 152 #[ii a] w fun e w' => e = .returned (.bool (inB 0 7 a)) /\ w = w' := by
 go_enter func152, ntmps152
 go_wp2_with (go_at_call 99; refine (isWithin_c _ _ _ _).mono ?_; rintro e w' ⟨rfl, rfl⟩)
 go_ret
 exact ⟨rfl, rfl⟩
theorem specFrameOK_c (p b v t : Int) (w : World) : Calls Tryz.prog 158 #[.agg #[ii p, ii b, ii v, ii t]] w fun e w' => e = .returned (.bool (frameB p b v t)) /\ Nx w w' := by
 obtain ⟨r, HF⟩ : ∃ r, Hid (r = frameB p b v t) := ⟨_, rfl⟩
 obtain ⟨x1, H1⟩ := nM (inB 1 999999 p)
 obtain ⟨x2, H2⟩ := nM (inB 0 7 b)
 obtain ⟨x3, H3⟩ := nM (inB 0 999999 v)
 obtain ⟨x4, H4⟩ := nM (inB 0 999999 t)
 have HR := qh (show (x1 && x2 && x3 && x4) = frameB p b v t by rw [<- H1.out, <- H2.out, <- H3.out, <- H4.out]; rfl)
 clear HF r
 cases x1 <;> cases x2 <;> cases x3 <;> cases x4 <;> (
  go_enter func158, ntmps158
  go_wp2_with (go_at_call 106; refine (l01In_c _ _ _ _).mono ?_; rintro e w' ⟨rfl, rfl⟩; first | rw [H1.out] | rw [H2.out] | rw [H3.out] | rw [H4.out])
  go_ret
  exact ⟨ret_bool HR.out, (Nx.refl _).alloc _⟩)
theorem frameRight_c (p b v t : Int) (w : World) : Calls Tryz.prog 74 #[.agg #[ii p, ii b, ii v, ii t]] w fun e w' => e = .returned (.bool (frameB p b v t)) /\ Nx w w' := by
 obtain ⟨x1, H1⟩ := nM (inB 0 999999 p)
 obtain ⟨x0, H0⟩ := nM (decide (0 < p))
 obtain ⟨x2, H2⟩ := nM (inB 0 7 b)
 obtain ⟨x3, H3⟩ := nM (inB 0 999999 v)
 obtain ⟨x4, H4⟩ := nM (inB 0 999999 t)
 have HR := qh (show (x1 && x0 && x2 && x3 && x4) = frameB p b v t by
  rw [<- H1.out, <- H0.out, <- H2.out, <- H3.out, <- H4.out]
  have : (inB 0 999999 p && decide (0 < p)) = inB 1 999999 p := by unfold inB; rw [Bool.eq_iff_iff]; simp; omega
  rw [this]; rfl)
 have h0 := H0.out
 clear H0
 cases x1 <;> cases x0 <;> cases x2 <;> cases x3 <;> cases x4 <;> (
  go_enter func74, ntmps74
  go_wp2_with (first
   | (go_at_call 100; refine (isPosition_c _ _).mono ?_; rintro e w' ⟨rfl, rfl⟩; rw [H1.out])
   | (go_at_call 152; refine (isBlock_c _ _).mono ?_; rintro e w' ⟨rfl, rfl⟩; rw [H2.out])
   | (go_at_call 153; refine (isValue_c _ _).mono ?_; rintro e w' ⟨rfl, rfl⟩; rw [H3.out])
   | (go_at_call 154; refine (isTime_c _ _).mono ?_; rintro e w' ⟨rfl, rfl⟩; rw [H4.out]))
  go_ret
  exact ⟨ret_bool HR.out, (Nx.refl _).alloc _⟩)
abbrev Chg := Int × Int × Int
def chZ : Chg := (0, 0, 0)
def chAt (cs : List Chg) (i : Nat) : Value := ii (if i % 3 = 0 then (cs.getD (i / 3) chZ).1 else if i % 3 = 1 then (cs.getD (i / 3) chZ).2.1 else (cs.getD (i / 3) chZ).2.2)
theorem chAt0 (cs : List Chg) (k : Nat) : chAt cs (k * 3) = ii (cs.getD k chZ).1 := by
 unfold chAt; rw [if_pos oM, show k * 3 / 3 = k by omega]
theorem chAt1 (cs : List Chg) (k : Nat) : chAt cs (k * 3 + 1) = ii (cs.getD k chZ).2.1 := by
 unfold chAt; rw [if_neg oM, if_pos oM, show (k * 3 + 1) / 3 = k by omega]
theorem chAt2 (cs : List Chg) (k : Nat) : chAt cs (k * 3 + 2) = ii (cs.getD k chZ).2.2 := by
 unfold chAt; rw [if_neg oM, if_neg oM, show (k * 3 + 2) / 3 = k by omega]
def Chs (w : World) (B : Nat) (A : Option Addr) (cs : List Chg) : Prop := Row w B A (cs.length * 3) (chAt cs)
theorem Chs.below {w w' : World} {B B' : Nat} {A : Option Addr} {cs : List Chg} (h : Chs w B A cs) (hb : Below B' w w') (hB : B <= B') : Chs w' B A cs := Row.below h hb hB
theorem Chs.at_ {w : World} {B k : Nat} {A : Option Addr} {cs : List Chg} (h : Chs w B A cs) (hk : k < cs.length) :
 ∃ b off, A = some ⟨b, off, none⟩ /\ b < B /\ w.cell? ⟨b, off + k * 3, none⟩ = some (ii (cs.getD k chZ).1) /\ w.cell? ⟨b, off + k * 3 + 1, none⟩ = some (ii (cs.getD k chZ).2.1) /\ w.cell? ⟨b, off + k * 3 + 2, none⟩ = some (ii (cs.getD k chZ).2.2) := by
 obtain ⟨b, off, e, hb, hc⟩ := h oM
 have h0 := hc (k * 3) oM
 have h1 := hc (k * 3 + 1) oM
 have h2 := hc (k * 3 + 2) oM
 rw [chAt0] at h0
 rw [chAt1] at h1
 rw [chAt2] at h2
 exact ⟨b, off, e, hb, h0, h1, h2⟩
def chB (c : Chg) : Bool := inB 0 7 c.1 && inB 0 999999 c.2.1 && inB 0 999999 c.2.2
def okCh (cs : List Chg) (k : Nat) : Bool := chB (cs.getD k chZ) && (k == 0 || decide ((cs.getD (k - 1) chZ).1 < (cs.getD k chZ).1))
def chsB (cs : List Chg) : Bool := (List.range cs.length).all (okCh cs)
def segB (f t m : Int) (cs : List Chg) : Bool := inB 0 999999 f && inB 0 999999 t && decide (f < t) && inB 0 999999 m && chsB cs
def OkTo (cs : List Chg) (k : Nat) : Prop := ∀ j, j < k -> okCh cs j = true
theorem OkTo.zero (cs : List Chg) : OkTo cs 0 := fun j h => absurd h oM
theorem OkTo.succ {cs : List Chg} {k : Nat} (h : OkTo cs k) (hk : okCh cs k = true) : OkTo cs (k + 1) := fun j hj => by
 rcases Nat.lt_or_ge j k with hlt | hge
 . exact h j hlt
 . obtain rfl : j = k := oM
   exact hk
theorem OkTo.all {cs : List Chg} (h : OkTo cs cs.length) : chsB cs = true := List.all_eq_true.2 fun j hj => h j (by simpa using hj)
theorem chsB_to {cs : List Chg} (h : chsB cs = true) : OkTo cs cs.length := fun j hj => List.all_eq_true.1 h j (by simpa using hj)
theorem chsB_no {cs : List Chg} {k : Nat} (hk : k < cs.length) (h : okCh cs k = false) : chsB cs = false := by
 unfold chsB
 rw [List.all_eq_false]
 exact ⟨k, by simpa using hk, by rw [h]; simp⟩
theorem OkTo.rise {cs : List Chg} {k : Nat} (h : OkTo cs k) : ∀ j, j < k -> (j : Int) <= (cs.getD j chZ).1 /\ (cs.getD j chZ).1 <= 7 := by
 intro j
 induction j with
 | zero =>
   intro hj
   have h0 := h 0 hj
   unfold okCh chB at h0
   simp only [Bool.and_eq_true] at h0
   exact inB_yes h0.1.1.1
 | succ j ih =>
   intro hj
   have h0 := h (j + 1) hj
   obtain ⟨h1, _⟩ := ih oM
   unfold okCh chB at h0
   simp only [Bool.and_eq_true, Bool.or_eq_true, decide_eq_true_eq, Nat.add_sub_cancel] at h0
   obtain ⟨_, h3⟩ := inB_yes h0.1.1.1
   rcases h0.2 with h2 | h2
   . simp at h2
   . exact ⟨oM, h3⟩
theorem chsB_len {cs : List Chg} (h : chsB cs = true) : cs.length <= 8 := by
 rcases Nat.lt_or_ge 8 cs.length with hl | hl
 . have := (chsB_to h).rise 8 hl
   omega
 . exact hl
theorem segB_no {f t m : Int} {cs : List Chg} (h : inB 0 999998 f = false \/ inB (f + 1) 999999 t = false \/ inB 0 999999 f = false \/ inB 0 999999 t = false \/ decide (f < t) = false \/ inB 0 999999 m = false \/ chsB cs = false) : segB f t m cs = false := by
 rcases h with h | h | h | h | h | h | h
 . unfold segB inB at *
   simp only [Bool.and_eq_false_iff, decide_eq_false_iff_not] at *
   omega
 . unfold segB inB at *
   simp only [Bool.and_eq_false_iff, decide_eq_false_iff_not] at *
   omega
 . unfold segB; rw [h]; rfl
 . unfold segB; rw [h]; simp
 . unfold segB; rw [h]; simp
 . unfold segB; rw [h]; simp
 . unfold segB; rw [h]; simp
theorem segB_mk {f t m : Int} {cs : List Chg} (h1 : 0 <= f) (h2 : f < t) (h3 : t <= 999999) (h4 : inB 0 999999 m = true) (h5 : chsB cs = true) : segB f t m cs = true := by
 unfold segB
 rw [inB_mk h1 oM, inB_mk oM h3, h4, h5, decide_eq_true h2]; rfl
theorem l02Change_c (a b c : Int) (w : World) : Calls Tryz.prog 239 #[.agg #[ii a, ii b, ii c]] w fun e w' => e = .returned (.bool (chB (a, b, c))) /\ Nx w w' := by
 obtain ⟨x1, H1⟩ := nM (inB 0 7 a)
 obtain ⟨x2, H2⟩ := nM (inB 0 999999 b)
 obtain ⟨x3, H3⟩ := nM (inB 0 999999 c)
 have HR := qh (show (x1 && x2 && x3) = chB (a, b, c) by rw [<- H1.out, <- H2.out, <- H3.out]; rfl)
 cases x1 <;> cases x2 <;> cases x3 <;> (
  go_enter func239, ntmps239
  go_wp2_with (go_at_call 106; refine (l01In_c _ _ _ _).mono ?_; rintro e w' ⟨rfl, rfl⟩; first | rw [H1.out] | rw [H2.out] | rw [H3.out])
  go_ret
  exact ⟨ret_bool HR.out, (Nx.refl _).alloc _⟩)
theorem changeRight_c (a b c : Int) (w : World) : Calls Tryz.prog 227 #[.agg #[ii a, ii b, ii c]] w fun e w' => e = .returned (.bool (chB (a, b, c))) /\ Nx w w' := by
 obtain ⟨x1, H1⟩ := nM (inB 0 7 a)
 obtain ⟨x2, H2⟩ := nM (inB 0 999999 b)
 obtain ⟨x3, H3⟩ := nM (inB 0 999999 c)
 have HR := qh (show (x1 && x2 && x3) = chB (a, b, c) by rw [<- H1.out, <- H2.out, <- H3.out]; rfl)
 cases x1 <;> cases x2 <;> cases x3 <;> (
  go_enter func227, ntmps227
  go_wp2_with (first
   | (go_at_call 152; refine (isBlock_c _ _).mono ?_; rintro e w' ⟨rfl, rfl⟩; rw [H1.out])
   | (go_at_call 153; refine (isValue_c _ _).mono ?_; rintro e w' ⟨rfl, rfl⟩; first | rw [H2.out] | rw [H3.out]))
  go_ret
  exact ⟨ret_bool HR.out, (Nx.refl _).alloc _⟩)
end
section
open Go.RowKit Go.ChangeMaps Go.MapKept Go.WideShapes
def vC (c : Chg) : Value := .agg #[.int  .i64 c.1, .int  .i64 c.2.1, .int  .i64 c.2.2]
structure Ent (es : List MapEntry) (M : Int -> Option Chg) : Prop where
 has : ∀ e ∈ es, ∃ k c, e.key = .int  .i64 k /\ (Lit.int  .i64 k).wf = true /\ e.val = vC c /\ M k = some c
 all : ∀ k c, M k = some c -> ∃ e ∈ es, e.key = .int  .i64 k
 one : ∀ (i j : Nat) (x y : MapEntry), es[i]? = some x -> es[j]? = some y -> x.key = y.key -> i = j
def MapC (w : World) (b : Nat) (M : Int -> Option Chg) : Prop := ∃ es clock, w.heap[b]? = some (.map es clock) /\ Ent es.toList M
section
variable {w w' : World} {b : Nat} {M : Int -> Option Chg}
theorem MapC.lt (h : MapC w b M) : b < w.heap.size := by
 obtain ⟨es, clock, hb, _⟩ := h
 exact (Array.getElem?_eq_some_iff.1 hb).1
theorem MapC.nx (h : MapC w b M) (hb : Nx w w') : MapC w' b M := by
 have hlt := h.lt
 obtain ⟨es, clock, h1, h2⟩ := h
 exact ⟨es, clock, (hb.block b hlt).trans h1, h2⟩
theorem MapC.alloc (h : MapC w b M) (o : Obj) : MapC (w.alloc o) b M := h.nx ((Nx.refl w).alloc o)
theorem MapC.made (w : World) : MapC (w.alloc (.map #[] 0)) w.heap.size (fun _ => none) :=
 ⟨#[], 0, (MapKept.heap_alloc w _).1, ⟨by simp, by simp, by simp⟩⟩
end
theorem keyI : Maps.Keyed Tryz.prog 3 := Maps.int_keyed underlying3
theorem keyI_mk {k : Int} (hw : (Lit.int  .i64 k).wf = true) : keyOf Tryz.prog 3 (.int  .i64 k) = some (.int  .i64 k) := Maps.keyOf_int_mk underlying3 hw
theorem Ent.keys {es : List MapEntry} {M : Int -> Option Chg} (h : Ent es M) : ∀ e ∈ es, ∃ l, keyOf Tryz.prog 3 e.key = some l := fun e he => by
 obtain ⟨k, c, hk, hw, _⟩ := h.has e he
 exact ⟨_, by rw [hk]; exact keyI_mk hw⟩
theorem MapC.look {w : World} {b : Nat} {M : Int -> Option Chg} (h : MapC w b M) {k : Int} (hw : (Lit.int  .i64 k).wf = true) :
 (Instr.lookup 232 (.map (some b)) (.int  .i64 k) true).run Tryz.prog w = .ok (.tuple #[vC ((M k).getD chZ), .bool (M k).isSome]) w := by
 obtain ⟨es, clock, hb, he⟩ := h
 rcases keyI.find w (keyI_mk hw) es.toList he.keys with ⟨h1, h2⟩ | ⟨j, e0, h1, h2, h3⟩
 . have hM : M k = none := by
    cases hM : M k with
    | none => rfl
    | some c =>
      obtain ⟨e, hm, hk⟩ := he.all k c hM
      exact absurd hk (h2 e hm)
   simp [Instr.lookup, run_underlying underlying232, MapKept.run_getObj_map hb, keyI.check w _ (keyI_mk hw), h1, Result.andThen, hM]
   rfl
 . obtain ⟨k', c, hk, _, hv, hM⟩ := he.has e0 (List.mem_of_getElem? h2)
   rw [h3] at hk
   injection hk with _ hk
   subst hk
   simp [Instr.lookup, run_underlying underlying232, MapKept.run_getObj_map hb, keyI.check w _ (keyI_mk hw), h1, Result.andThen, hM, hv]
theorem MapC.put {w : World} {b : Nat} {M : Int -> Option Chg} (h : MapC w b M) {k : Int} (hw : (Lit.int  .i64 k).wf = true) (c : Chg) :
 ∃ w', (Instr.mapUpdate 232 (.map (some b)) (.int  .i64 k) (vC c)).run Tryz.prog w = .ok () w' /\ MapC w' b (fun x => if x = k then some c else M x) /\ Rg b (b + 1) w w' := by
 obtain ⟨es, clock, hb, he⟩ := h
 have hrg : ∀ es' clock', Rg b (b + 1) w (setBlock w b (.map es' clock')) := fun es' clock' => ⟨rfl, rfl, rfl, by simp [setBlock], fun i _ hi => heap_setBlock_other hb _ oM⟩
 rcases keyI.find w (keyI_mk hw) es.toList he.keys with ⟨h1, h2⟩ | ⟨j, e0, h1, h2, h3⟩
 . refine ⟨setBlock w b (.map (es.push ⟨.int  .i64 k, vC c, clock⟩) (clock + 1)), ?_, ⟨_, _, heap_setBlock_same hb _, ?_⟩, hrg _ _⟩
   . simp [Instr.mapUpdate, run_underlying underlying232, MapKept.run_getObj_map hb, keyI.check w false (keyI_mk hw), h1, MapKept.run_setObj_map _ hb, Result.andThen, setBlock]
   . rw [Array.toList_push]
     refine ⟨fun e hm => ?_, fun x d hx => ?_, fun i j x y hx hy hxy => ?_⟩
     . rcases List.mem_append.1 hm with hm | hm
       . obtain ⟨k', c', hk, hw', hv, hM⟩ := he.has e hm
         refine ⟨k', c', hk, hw', hv, ?_⟩
         have : k' ≠ k := fun e1 => h2 e hm (by rw [hk, e1])
         simp [this, hM]
       . simp only [List.mem_singleton] at hm
         subst hm
         exact ⟨k, c, rfl, hw, rfl, by simp⟩
     . by_cases hxk : x = k
       . exact ⟨⟨.int  .i64 k, vC c, clock⟩, by simp, by rw [hxk]⟩
       . simp only [if_neg hxk] at hx
         obtain ⟨e, hm, hk⟩ := he.all x d hx
         exact ⟨e, by simp [hm], hk⟩
     . have hlen : ∀ (i : Nat) (x : MapEntry), (es.toList ++ [⟨.int  .i64 k, vC c, clock⟩])[i]? = some x -> (i < es.toList.length /\ es.toList[i]? = some x) \/ (i = es.toList.length /\ x.key = .int  .i64 k) := by
        intro i x hx
        rcases Nat.lt_or_ge i es.toList.length with hl | hl
        . rw [List.getElem?_append_left hl] at hx
          exact .inl ⟨hl, hx⟩
        . rw [List.getElem?_append_right hl] at hx
          have hi : i - es.toList.length = 0 := by
           have := (List.getElem?_eq_some_iff.1 hx).1
           simpa using this
          rw [hi] at hx
          simp only [List.getElem?_cons_zero, Option.some.injEq] at hx
          exact .inr ⟨oM, by rw [<- hx]⟩
       rcases hlen i x hx with ⟨hi, hx⟩ | ⟨hi, hx⟩ <;> rcases hlen j y hy with ⟨hj, hy⟩ | ⟨hj, hy⟩
       . exact he.one i j x y hx hy hxy
       . exact absurd (hxy.trans hy) (h2 x (List.mem_of_getElem? hx))
       . exact absurd (hxy.symm.trans hx) (h2 y (List.mem_of_getElem? hy))
       . omega
 . have hj : es[j]? = some e0 := by simpa using h2
   have hlist : (es.modify j (fun e' => { e' with key := .int  .i64 k, val := vC c })).toList = es.toList.set j { e0 with key := .int  .i64 k, val := vC c } := by rw [Array.toList_modify, modify_eq_set _ _ _ _ h2]
   have hjl : j < es.toList.length := (List.getElem?_eq_some_iff.1 h2).1
   have hget : ∀ (i : Nat) (x : MapEntry), (es.toList.set j { e0 with key := .int  .i64 k, val := vC c })[i]? = some x -> (i = j /\ x = { e0 with key := .int  .i64 k, val := vC c }) \/ (i ≠ j /\ es.toList[i]? = some x /\ x.key ≠ .int  .i64 k) := by
    intro i x hx
    rw [List.getElem?_set] at hx
    by_cases hij : j = i
    . rw [if_pos hij, if_pos hjl] at hx
      exact .inl ⟨hij.symm, (Option.some.inj hx).symm⟩
    . rw [if_neg hij] at hx
      exact .inr ⟨fun e => hij e.symm, hx, fun e => hij (he.one j i e0 x h2 hx (by rw [h3, e]))⟩
   refine ⟨setBlock w b (.map (es.modify j (fun e' => { e' with key := .int  .i64 k, val := vC c })) clock), ?_, ⟨_, _, heap_setBlock_same hb _, ?_⟩, hrg _ _⟩
   . simp [Instr.mapUpdate, run_underlying underlying232, MapKept.run_getObj_map hb, keyI.check w false (keyI_mk hw), h1, hj, h3, keyI.stays w (keyI_mk hw), MapKept.run_setObj_map _ hb, Result.andThen, setBlock]
   . rw [hlist]
     refine ⟨fun e hm => ?_, fun x d hx => ?_, fun i i' x y hx hy hxy => ?_⟩
     . obtain ⟨i, hi⟩ := List.mem_iff_getElem?.1 hm
       rcases hget i e hi with ⟨_, rfl⟩ | ⟨_, hi, hne⟩
       . exact ⟨k, c, rfl, hw, rfl, by simp⟩
       . obtain ⟨k', c', hk, hw', hv, hM⟩ := he.has e (List.mem_of_getElem? hi)
         refine ⟨k', c', hk, hw', hv, ?_⟩
         have : k' ≠ k := fun e1 => hne (by rw [hk, e1])
         simp [this, hM]
     . by_cases hxk : x = k
       . exact ⟨{ e0 with key := .int  .i64 k, val := vC c }, List.mem_iff_getElem?.2 ⟨j, by rw [List.getElem?_set, if_pos rfl, if_pos hjl]⟩, by rw [hxk]⟩
       . simp only [if_neg hxk] at hx
         obtain ⟨e, hm, hk⟩ := he.all x d hx
         obtain ⟨i, hi⟩ := List.mem_iff_getElem?.1 hm
         refine ⟨e, List.mem_iff_getElem?.2 ⟨i, ?_⟩, hk⟩
         have hij : j ≠ i := by
          rintro rfl
          rw [h2] at hi
          cases hi
          rw [h3] at hk
          injection hk with _ hk
          exact hxk hk.symm
         rw [List.getElem?_set, if_neg hij]
         exact hi
     . rcases hget i x hx with ⟨hi, hx⟩ | ⟨hi, hx, hnx⟩ <;> rcases hget i' y hy with ⟨hi', hy⟩ | ⟨hi', hy, hny⟩
       . omega
       . exact absurd (by rw [<- hxy, hx]) hny
       . exact absurd (by rw [hxy, hy]) hnx
       . exact he.one i i' x y hx hy hxy
theorem wpList_put {w : World} {ops : Array Oper} {rest : List Oper} {o : Oper} {a : Act} {Q : Exit -> Act -> World -> Prop}
 (hg : o.guard = none) (m x v : Operand) (hop : o.op = Op.mapUpdate 232 m x v) (b : Nat) (M : Int -> Option Chg) (k : Int) (c : Chg)
 (hm : a.eval m = .map (some b)) (hown : MapC w b M) (hx : a.eval x = .int  .i64 k) (hv : a.eval v = vC c) (hw : (Lit.int  .i64 k).wf = true)
 (hK : ∀ w', MapC w' b (fun x => if x = k then some c else M x) -> Rg b (b + 1) w w' -> wpList Tryz.prog ops Q rest (a.put o.dst undef) w') :
 wpList Tryz.prog ops Q (o :: rest) a w := by
 refine wpList_plain hg fun K' hK' => ?_
 obtain ⟨w', hrun, r1, r2⟩ := hown.put hw c
 unfold Oper.wp
 simp [execOp, hop, hm, hx, hv, hrun, Result.andThen]
 exact hK' _ _ (hK w' r1 r2)
end
section
open Go.RowKit
def inAt (xs : List Int) (i : Nat) : Value := ii (xs.getD i 0)
def Ins (w : World) (B : Nat) (A : Option Addr) (xs : List Int) : Prop := Row w B A xs.length (inAt xs)
theorem Ins.below {w w' : World} {B B' : Nat} {A : Option Addr} {xs : List Int} (h : Ins w B A xs) (hb : Below B' w w') (hB : B <= B') : Ins w' B A xs := Row.below h hb hB
theorem Ins.more {w : World} {B B' : Nat} {A : Option Addr} {xs : List Int} (h : Ins w B A xs) (hB : B <= B') : Ins w B' A xs := Row.more h hB
theorem Ins.at_ {w : World} {B k : Nat} {A : Option Addr} {xs : List Int} (h : Ins w B A xs) (hk : k < xs.length) :
 ∃ b off, A = some ⟨b, off, none⟩ /\ b < B /\ w.cell? ⟨b, off + k, none⟩ = some (ii (xs.getD k 0)) := by
 obtain ⟨b, off, e, hb, hc⟩ := h oM
 exact ⟨b, off, e, hb, hc k hk⟩
abbrev SlI (w : World) (lo : Nat) (A : Option Addr) (xs : List Int) : Prop := Sl w lo A 3 xs.length (inAt xs)
def RetI (w : World) (xs : List Int) (e : Ending) (w' : World) : Prop := ∃ (A : Option Addr) (c : Nat), e = .returned (sC A xs.length c) /\ SlI w' w.heap.size A xs /\ Nx w w'
theorem info_int : (Tryz.prog.info? 3).map (fun i => (i.zero, i.size, i.bytes)) = some (some (ii 0), 1, 8) := by kernel_rfl
def mkAt (k i : Nat) : Value := ii ((k + i : Nat) : Int)
def contB (xs : List Int) : Bool := decide (xs.length = 8) && xs.all (inB 0 999999)
def InTo (xs : List Int) (k : Nat) : Prop := ∀ j, j < k -> inB 0 999999 (xs.getD j 0) = true
theorem InTo.zero (xs : List Int) : InTo xs 0 := fun j h => absurd h oM
theorem InTo.succ {xs : List Int} {k : Nat} (h : InTo xs k) (hk : inB 0 999999 (xs.getD k 0) = true) : InTo xs (k + 1) := fun j hj => by
 rcases Nat.lt_or_ge j k with hlt | hge
 . exact h j hlt
 . obtain rfl : j = k := oM
   exact hk
theorem InTo.all {xs : List Int} (h : InTo xs xs.length) : xs.all (inB 0 999999) = true := List.all_eq_true.2 fun x hx => by
 obtain ⟨j, hj, rfl⟩ := List.mem_iff_getElem.1 hx
 have := h j hj
 rwa [gdE, List.getElem?_eq_getElem hj] at this
theorem contB_no {xs : List Int} {k : Nat} (hk : k < xs.length) (h : inB 0 999999 (xs.getD k 0) = false) : contB xs = false := by
 unfold contB
 rw [show xs.all (inB 0 999999) = false from List.all_eq_false.2 ⟨xs[k], List.getElem_mem _, by rw [gdE, List.getElem?_eq_getElem hk] at h; simp only [Option.getD_some] at h; simp [h]⟩]
 simp
theorem contB_len {xs : List Int} (h : xs.length ≠ 8) : contB xs = false := by unfold contB; rw [decide_eq_false h]; rfl
theorem contB_mk {xs : List Int} (h : xs.length = 8) (h2 : InTo xs xs.length) : contB xs = true := by unfold contB; rw [decide_eq_true h, h2.all]; rfl
theorem contB_yes {xs : List Int} (h : contB xs = true) : xs.length = 8 /\ ∀ k, k < 8 -> 0 <= xs.getD k 0 /\ xs.getD k 0 <= 999999 := by
 unfold contB at h
 simp only [Bool.and_eq_true, decide_eq_true_eq, List.all_eq_true] at h
 refine ⟨h.1, fun k hk => inB_yes ?_⟩
 have hk' : k < xs.length := oM
 rw [gdE, List.getElem?_eq_getElem hk']
 exact h.2 _ (List.getElem_mem _)
theorem addr_add' (b off i : Nat) : (Addr.mk b off none).add i = ⟨b, off + i, none⟩ := by
 unfold Addr.add
 by_cases h : i = 0
 . subst h; simp
 . simp [h]
def NewRow (w w' : World) (e : TypeId) (size : Nat) (A : Option Addr) (m : Nat) (f : Nat -> Value) : Prop :=
 Nx w w' /\ (0 < m -> ∃ g, A = some ⟨g, 0, none⟩ /\ w.heap.size <= g /\ Own w' g e (m * size) f)
theorem cells_list (N : Nat) (f : Nat -> Value) (j : Nat) (u : Value) (h : ((List.range N).map f)[j]? = some u) : j < N /\ f j = u := by
 rw [List.getElem?_map] at h
 by_cases hj : j < N
 . rw [List.getElem?_range hj] at h
   exact ⟨hj, by simpa using h⟩
 . rw [List.getElem?_eq_none (by simpa using hj)] at h
   cases h
section
variable {P : Program}
theorem run_append_new (w : World) (t ty e : TypeId) (i : TypeInfo) (z : Value) (size bytes : Nat) (ht : P.underlying t = some (.slice e)) (hi : P.info? e = some i) (hz : i.zero = some z) (hsize : i.size = size) (hby : i.bytes = bytes)
 (hsz : 0 < size) (hb64 : bytes <= 64) (g0 : Nat) (A : Option Addr) (m c B : Nat) (f : Nat -> Value) (hrow : Row w B A (m * size) f) (hm : m <= 1048576) :
 ∃ A' c' w', (Builtin.append_ #[t, t] ty #[sC (some ⟨g0, 0, none⟩) 0 0, sC A m c]).run P w = .ok (sC A' m c') w' /\ NewRow w w' e size A' m f := by
 subst hsize hby
 rcases Nat.eq_zero_or_pos m with h0 | hp
 . subst h0
   refine ⟨some ⟨g0, 0, none⟩, 0, w, ?_, Nx.refl _, fun h => absurd h oM⟩
   rcases A with _ | a
   . simp [Builtin.append_, run_underlying ht, sizeOf, typeInfo, hi, Builtin.lenOf, Builtin.firstCells, storeCells]
   . simp [Builtin.append_, run_underlying ht, sizeOf, typeInfo, hi, Builtin.lenOf, Builtin.firstCells, storeCells, loadCells, loadCellsFrom]
 . have hpos : 0 < m * i.size := Nat.mul_pos hp hsz
   obtain ⟨b, off, rfl, hb, hc⟩ := hrow hpos
   have hgrow := run_append_grow (P := P) w t ty e i z ht hi hz ⟨g0, 0, none⟩ 0 0 [] (by simp) (fun j v h => by simp at h) ⟨b, off, none⟩ m c ((List.range (m * i.size)).map f) (by simp)
    (fun j u h => by
     obtain ⟨hj, rfl⟩ := cells_list _ _ _ _ h
     rw [addr_add']; exact hc j hj) oM oM (growslice_fits oM (by
      have h1 : (0 + m) * i.bytes <= 1048576 * 64 := Nat.mul_le_mul oM hb64
      omega))
   rw [Nat.zero_add] at hgrow
   refine ⟨_, _, _, hgrow, ?_, fun _ => ⟨_, rfl, Nat.le_refl _, ?_⟩⟩
   . exact ((Nx.refl w).drew).alloc _
   . refine ⟨_, heap_alloc_new w.drew _, ?_, fun k hk => ?_⟩
     . simp only [Array.size_append, List.size_toArray, List.length_map, List.length_range, List.length_nil]; omega
     . rw [Array.getElem?_append_left (by simp only [Array.size_append, List.size_toArray, List.length_map, List.length_range, List.length_nil]; omega)]
       simp [List.getElem?_range hk]
theorem wp_append_new {o : Oper} {a : Act} {w : World} {K : Act -> World -> Prop} {Q : Exit -> Act -> World -> Prop} (s x : Operand) (t : TypeId) (ho : o.op = .call { callee := .builtin .append, args := #[s, x], argTypes := #[t, t] })
 (e : TypeId) (i : TypeInfo) (z : Value) (size bytes : Nat) (ht : P.underlying t = some (.slice e)) (hi : P.info? e = some i) (hz : i.zero = some z) (hsize : i.size = size) (hby : i.bytes = bytes)
 (hsz : 0 < size) (hb64 : bytes <= 64) (g0 : Nat) (A : Option Addr) (m c B : Nat) (f : Nat -> Value) (hs : a.eval s = sC (some ⟨g0, 0, none⟩) 0 0) (hx : a.eval x = sC A m c) (hrow : Row w B A (m * size) f) (hm : m <= 1048576)
 (h : ∀ A' c' w', NewRow w w' e size A' m f -> K (a.put o.dst (sC A' m c')) w') : o.wp P a w K Q := by
 obtain ⟨A', c', w', hrun, hn⟩ := run_append_new (P := P) w t o.type e i z size bytes ht hi hz hsize hby hsz hb64 g0 A m c B f hrow hm
 unfold Oper.wp execOp
 simp only [ho, resolve, invoke, builtin, Sem.run_bind, Sem.run_pure, Result.andThen_ok, List.map_toArray, List.map_cons, List.map_nil, hs, hx, hrun]
 exact h A' c' w' hn
theorem wpList_append_new {ops : Array Oper} {rest : List Oper} {o : Oper} {a : Act} {w : World} {Q : Exit -> Act -> World -> Prop} (hgd : o.guard = none) (s x : Operand) (t : TypeId) (ho : o.op = .call { callee := .builtin .append, args := #[s, x], argTypes := #[t, t] })
 (e : TypeId) (i : TypeInfo) (z : Value) (size bytes : Nat) (ht : P.underlying t = some (.slice e)) (hi : P.info? e = some i) (hz : i.zero = some z) (hsize : i.size = size) (hby : i.bytes = bytes)
 (hsz : 0 < size) (hb64 : bytes <= 64) (g0 : Nat) (A : Option Addr) (m c B : Nat) (f : Nat -> Value) (hs : a.eval s = sC (some ⟨g0, 0, none⟩) 0 0) (hx : a.eval x = sC A m c) (hrow : Row w B A (m * size) f) (hm : m <= 1048576)
 (h : ∀ A' c' w', NewRow w w' e size A' m f -> wpList P ops Q rest (a.put o.dst (sC A' m c')) w') : wpList P ops Q (o :: rest) a w :=
 wpList_plain hgd fun _ hK => wp_append_new s x t ho e i z size bytes ht hi hz hsize hby hsz hb64 g0 A m c B f hs hx hrow hm fun A' c' w' hn => hK _ _ (h A' c' w' hn)
theorem step_append_new {ops : Array Oper} {o : Oper} {a : Act} {w : World} {K : Act -> World -> Prop} {Q : Exit -> Act -> World -> Prop} {E : Prop} (hgd : o.guard = none) (s x : Operand) (t : TypeId) (ho : o.op = .call { callee := .builtin .append, args := #[s, x], argTypes := #[t, t] })
 (e : TypeId) (i : TypeInfo) (z : Value) (size bytes : Nat) (ht : P.underlying t = some (.slice e)) (hi : P.info? e = some i) (hz : i.zero = some z) (hsize : i.size = size) (hby : i.bytes = bytes)
 (hsz : 0 < size) (hb64 : bytes <= 64) (g0 : Nat) (A : Option Addr) (m c B : Nat) (f : Nat -> Value) (hs : a.eval s = sC (some ⟨g0, 0, none⟩) 0 0) (hx : a.eval x = sC A m c) (hrow : Row w B A (m * size) f) (hm : m <= 1048576)
 (h : ∀ A' c' w', NewRow w w' e size A' m f -> K (a.put o.dst (sC A' m c')) w') :
 if Region.wanted o (yielded ops a.tmps) = true then Oper.wp P o a w K Q else E := by
 have hw : Region.wanted o (yielded ops a.tmps) = true := by simp [Region.wanted, hgd]
 rw [if_pos hw]
 exact wp_append_new s x t ho e i z size bytes ht hi hz hsize hby hsz hb64 g0 A m c B f hs hx hrow hm h
theorem run_copy_new (w : World) (dT sT ty elem : TypeId) (i : TypeInfo) (size : Nat) (hu : P.underlying dT = some (.slice elem)) (hi : P.info? elem = some i) (hsize : i.size = size)
 (g n cap : Nat) (A : Option Addr) (m c B M : Nat) (t : TypeId) (f f0 : Nat -> Value) (ho : Own w g t M f0) (hM : n * size <= M) (hmn : m <= n) (hrow : Row w B A (m * size) f) (h1 : ∀ k, (f k).oneCell' = true) :
 ∃ w', (Builtin.copy_ #[dT, sT] ty #[sC (some ⟨g, 0, none⟩) n cap, sC A m c]).run P w = .ok (goInt m) w' /\ Own w' g t M (fun k => if k < m * size then f k else f0 k) /\
   (∀ a, Nx a w -> a.heap.size <= g -> Nx a w') /\ w'.heap.size = w.heap.size /\ (∀ k, k ≠ g -> w'.heap[k]? = w.heap[k]?) := by
 subst hsize
 have hmin : Nat.min m n = m := Nat.min_eq_left hmn
 rcases Nat.eq_zero_or_pos (m * i.size) with h0 | hp
 . refine ⟨w, ?_, ho.congr (fun k _ => by rw [if_neg oM]), fun _ h _ => h, rfl, fun _ _ => rfl⟩
   rcases A with _ | a
   . simp [Builtin.copy_, run_underlying hu, Builtin.lenOf, Builtin.firstCells, sizeOf, typeInfo, hi, hmin, storeCells]
   . simp [Builtin.copy_, run_underlying hu, Builtin.lenOf, Builtin.firstCells, sizeOf, typeInfo, hi, hmin, storeCells, h0, loadCells, loadCellsFrom]
 . obtain ⟨b, off, rfl, hb, hc⟩ := hrow hp
   obtain ⟨cur, hg, hcM, hcur⟩ := ho
   have hle : m * i.size <= n * i.size := Nat.mul_le_mul_right _ hmn
   have hl := run_loadCells_list (P := P) w ⟨b, off, none⟩ ((List.range (m * i.size)).map f) (fun j u h => by
    obtain ⟨hj, rfl⟩ := cells_list _ _ _ _ h
    rw [addr_add']; exact hc j hj)
   have hst := run_storeCells_at P g 0 t ((List.range (m * i.size)).map f) 0 cur w hg sM (fun v hv => by
    simp only [List.mem_map, List.mem_range] at hv
    obtain ⟨k, _, rfl⟩ := hv
    exact h1 k)
   simp only [List.length_map, List.length_range] at hl hst
   refine ⟨_, by
    simp only [Builtin.copy_]
    simp [run_underlying hu, Builtin.lenOf, Builtin.firstCells, sizeOf, typeInfo, hi, hmin, hl]
    rw [hst]; rfl, ?_, ?_, ?_, ?_⟩
   . refine ⟨_, setRow_heap w g cur _ t _ hg, ?_, fun k hk => ?_⟩
     . simp; omega
     . by_cases hkm : k < m * i.size
       . simp [hkm, List.getElem?_append]
       . have h2 : m * i.size + (k - m * i.size) = k := oM
         simp [hkm, List.getElem?_append, h2, hcur k hk]
   . intro a hna hag
     exact ⟨hna.os, hna.tape, hna.output, by have := hna.size; simpa [World.setRow] using this, fun k hk => (setRow_other w g k _ oM).trans (hna.block k hk)⟩
   . simp [World.setRow]
   . exact fun k hk => setRow_other w g k _ hk
end
theorem Box.own {w : World} {g : Nat} {t : TypeId} {cs : Array Value} (h : Box w g t cs) : Own w g t cs.size (fun i => cs[i]!) :=
 ⟨cs, h, Nat.le_refl _, fun i hi => by simp [hi]⟩
theorem inAt_oneF (xs : List Int) (k : Nat) : (inAt xs k).oneCell' = true := rfl
theorem list8 {xs : List Int} (h : xs.length = 8) : ∃ x0 x1 x2 x3 x4 x5 x6 x7, xs = [x0, x1, x2, x3, x4, x5, x6, x7] := by
 match xs, h with
 | [x0, x1, x2, x3, x4, x5, x6, x7], _ => exact ⟨x0, x1, x2, x3, x4, x5, x6, x7, rfl⟩
def vA (xs : List Int) : Value := .agg #[inAt xs 0, inAt xs 1, inAt xs 2, inAt xs 3, inAt xs 4, inAt xs 5, inAt xs 6, inAt xs 7]
def zA : Array Value := #[ii 0, ii 0, ii 0, ii 0, ii 0, ii 0, ii 0, ii 0]
theorem Own.d8 {w : World} {g : Nat} {t : TypeId} {f : Nat -> Value} (h : Own w g t 8 f) : w.cell? ⟨g, 0, none⟩ = some (f 0) /\ w.cell? ⟨g, 1, none⟩ = some (f 1) /\ w.cell? ⟨g, 2, none⟩ = some (f 2) /\ w.cell? ⟨g, 3, none⟩ = some (f 3) /\ w.cell? ⟨g, 4, none⟩ = some (f 4) /\ w.cell? ⟨g, 5, none⟩ = some (f 5) /\ w.cell? ⟨g, 6, none⟩ = some (f 6) /\ w.cell? ⟨g, 7, none⟩ = some (f 7) :=
 ⟨h.cell oM, h.cell oM, h.cell oM, h.cell oM, h.cell oM, h.cell oM, h.cell oM, h.cell oM⟩
def put8 (u : World) (g : Nat) (x0 x1 x2 x3 x4 x5 x6 x7 : Int) : World := (((((((u.setCell ⟨g, 0, none⟩ (ii x0)).setCell ⟨g, 1, none⟩ (ii x1)).setCell ⟨g, 2, none⟩ (ii x2)).setCell ⟨g, 3, none⟩ (ii x3)).setCell ⟨g, 4, none⟩ (ii x4)).setCell ⟨g, 5, none⟩ (ii x5)).setCell ⟨g, 6, none⟩ (ii x6)).setCell ⟨g, 7, none⟩ (ii x7)
theorem put8_nx {w u : World} {g : Nat} (hx : Nx w u) (hg : w.heap.size <= g) (x0 x1 x2 x3 x4 x5 x6 x7 : Int) : Nx w (put8 u g x0 x1 x2 x3 x4 x5 x6 x7) :=
 (((((((hx.setCell (p := ⟨g, 0, none⟩) hg _).setCell (p := ⟨g, 1, none⟩) hg _).setCell (p := ⟨g, 2, none⟩) hg _).setCell (p := ⟨g, 3, none⟩) hg _).setCell (p := ⟨g, 4, none⟩) hg _).setCell (p := ⟨g, 5, none⟩) hg _).setCell (p := ⟨g, 6, none⟩) hg _).setCell (p := ⟨g, 7, none⟩) hg _
theorem put8_own {u : World} {g : Nat} {t : TypeId} {f : Nat -> Value} (h : Own u g t 8 f) (x0 x1 x2 x3 x4 x5 x6 x7 : Int) : Own (put8 u g x0 x1 x2 x3 x4 x5 x6 x7) g t 8 (inAt [x0, x1, x2, x3, x4, x5, x6, x7]) := by
 have q := (((((((h.set (k := 0) oM (ii x0)).set (k := 1) oM (ii x1)).set (k := 2) oM (ii x2)).set (k := 3) oM (ii x3)).set (k := 4) oM (ii x4)).set (k := 5) oM (ii x5)).set (k := 6) oM (ii x6)).set (k := 7) oM (ii x7)
 refine q.congr fun i hi => ?_
 match i, hi with
 | 0, _ => rfl
 | 1, _ => rfl
 | 2, _ => rfl
 | 3, _ => rfl
 | 4, _ => rfl
 | 5, _ => rfl
 | 6, _ => rfl
 | 7, _ => rfl
theorem valuesOf_c (A : Option Addr) (c B : Nat) (xs : List Int) (w : World) (h : Ins w B A xs) (hB : B <= w.heap.size) (h8 : xs.length = 8) :
 Calls Tryz.prog 146 #[sC A xs.length c] w fun e w' => e = .returned (vA xs) /\ Nx w w' := by
 obtain ⟨x0, x1, x2, x3, x4, x5, x6, x7, rfl⟩ := list8 h8
 obtain ⟨i0, hi0, hz0, hz1, hz2⟩ := info_parts info_int
 have r0 := (Box.new w 105 zA).alloc (.cells zA 105)
 have b0 := Box.new (w.alloc (.cells zA 105)) 105 zA
 have hx0 := ((Nx.refl w).alloc (.cells zA 105)).alloc (.cells zA 105)
 simp only [World.size_alloc] at b0
 unfold zA at r0 b0 hx0
 go_enter func146, ntmps146
 go_wp2_with fail
 generalize ((w.alloc (.cells #[ii 0, ii 0, ii 0, ii 0, ii 0, ii 0, ii 0, ii 0] 105)).alloc (.cells #[ii 0, ii 0, ii 0, ii 0, ii 0, ii 0, ii 0, ii 0] 105)) = W at *
 obtain ⟨w1, hrun, ho1, hnx1, hsz, hoth⟩ := run_copy_new (P := Tryz.prog) W 23 23 3 3 i0 1 underlying23 hi0 hz1
  (w.heap.size + 1) 8 8 A 8 c B 8 105 (inAt [x0, x1, x2, x3, x4, x5, x6, x7]) _ b0.own oM nle (h.below hx0 hB) (inAt_oneF _)
 rw [hrun]
 have hx1 := hnx1 w hx0 oM
 have ho := ho1.congr (f' := inAt [x0, x1, x2, x3, x4, x5, x6, x7]) (fun k hk => by rw [if_pos oM])
 have r1 : Box w1 w.heap.size 105 _ := (hoth _ oM).trans r0
 have hlt := ho.lt
 clear hrun ho1 hnx1 hsz hoth hx0 b0 r0 W
 obtain ⟨c0, c1, c2, c3, c4, c5, c6, c7⟩ := ho.d8
 change w1.cell? _ = some (ii x0) at c0
 change w1.cell? _ = some (ii x1) at c1
 change w1.cell? _ = some (ii x2) at c2
 change w1.cell? _ = some (ii x3) at c3
 change w1.cell? _ = some (ii x4) at c4
 change w1.cell? _ = some (ii x5) at c5
 change w1.cell? _ = some (ii x6) at c6
 change w1.cell? _ = some (ii x7) at c7
 obtain ⟨s0, s1, s2, s3, s4, s5, s6, s7⟩ := r1.own.d8
 have f0 := r1.frozen 0
 have f1 := r1.frozen 1
 have f2 := r1.frozen 2
 have f3 := r1.frozen 3
 have f4 := r1.frozen 4
 have f5 := r1.frozen 5
 have f6 := r1.frozen 6
 have f7 := r1.frozen 7
 go_wp2_with fail
 have q := put8_own r1.own x0 x1 x2 x3 x4 x5 x6 x7
 have hxf := put8_nx hx1 nle x0 x1 x2 x3 x4 x5 x6 x7
 unfold put8 at q hxf
 generalize (((((((w1.setCell ⟨w.heap.size, 0, none⟩ (ii x0)).setCell ⟨w.heap.size, 1, none⟩ (ii x1)).setCell ⟨w.heap.size, 2, none⟩ (ii x2)).setCell ⟨w.heap.size, 3, none⟩ (ii x3)).setCell ⟨w.heap.size, 4, none⟩ (ii x4)).setCell ⟨w.heap.size, 5, none⟩ (ii x5)).setCell ⟨w.heap.size, 6, none⟩ (ii x6)).setCell ⟨w.heap.size, 7, none⟩ (ii x7) = Wf at *
 obtain ⟨g0, g1, g2, g3, g4, g5, g6, g7⟩ := q.d8
 exact bodyPost_ret (v := vA [x0, x1, x2, x3, x4, x5, x6, x7]) (by simp [results, results146, go_sem, g0, g1, g2, g3, g4, g5, g6, g7, vA]) rfl ⟨rfl, hxf⟩

def pN (c : Chg) : Int := c.2.1
def pO (c : Chg) : Int := c.2.2
def app (p : Chg -> Int) (xs : List Int) (cs : List Chg) : List Int := cs.foldl (fun xs c => xs.set c.1.toNat (p c)) xs
theorem app_len (p : Chg -> Int) (cs : List Chg) : ∀ xs, (app p xs cs).length = xs.length := by
 induction cs with
 | nil => intro xs; rfl
 | cons c cs ih => intro xs; show (app p (xs.set c.1.toNat (p c)) cs).length = _; rw [ih]; simp
theorem app_succ (p : Chg -> Int) (xs : List Int) (cs : List Chg) {k : Nat} (hk : k < cs.length) : app p xs (cs.take (k + 1)) = (app p xs (cs.take k)).set (cs.getD k chZ).1.toNat (p (cs.getD k chZ)) := by
 unfold app
 rw [List.take_succ_eq_append_getElem hk, List.foldl_append, gdE, List.getElem?_eq_getElem hk]
 rfl
theorem inAt_set {ys : List Int} {n i : Nat} (v : Int) (hn : n < ys.length) : inAt (ys.set n v) i = if i = n then ii v else inAt ys i := by
 unfold inAt
 by_cases h : i = n
 . subst h; rw [if_pos rfl, gdE, List.getElem?_set_self hn]; rfl
 . rw [if_neg h, gdE, gdE, List.getElem?_set_ne (fun e => h e.symm)]
theorem box_inAt {w : World} {g : Nat} {t : TypeId} {xs : List Int} (h : Box w g t #[inAt xs 0, inAt xs 1, inAt xs 2, inAt xs 3, inAt xs 4, inAt xs 5, inAt xs 6, inAt xs 7]) : Own w g t 8 (inAt xs) := by
 refine h.own.congr fun i hi => ?_
 match i, hi with
 | 0, _ => rfl
 | 1, _ => rfl
 | 2, _ => rfl
 | 3, _ => rfl
 | 4, _ => rfl
 | 5, _ => rfl
 | 6, _ => rfl
 | 7, _ => rfl
theorem valuesForward_c (f t m : Int) (A : Option Addr) (c B : Nat) (cs : List Chg) (xs : List Int) (w : World) (h : Chs w B A cs) (hB : B <= w.heap.size) (hok : chsB cs = true) (h8 : xs.length = 8) :
 Calls Tryz.prog 150 #[vA xs, .agg #[ii f, ii t, ii m, sC A cs.length c]] w fun e w' => e = .returned (vA (app pN xs cs)) /\ Nx w w' := by
 have b0 := ((Box.new w 105 #[inAt xs 0, inAt xs 1, inAt xs 2, inAt xs 3, inAt xs 4, inAt xs 5, inAt xs 6, inAt xs 7]).alloc (.cells #[ii f, ii t, ii m, sC A cs.length c] 122)).alloc (.cells zA 105)
 have r0 := Box.new ((w.alloc (.cells #[inAt xs 0, inAt xs 1, inAt xs 2, inAt xs 3, inAt xs 4, inAt xs 5, inAt xs 6, inAt xs 7] 105)).alloc (.cells #[ii f, ii t, ii m, sC A cs.length c] 122)) 105 zA
 have hx0 := (((Nx.refl w).alloc (.cells #[inAt xs 0, inAt xs 1, inAt xs 2, inAt xs 3, inAt xs 4, inAt xs 5, inAt xs 6, inAt xs 7] 105)).alloc (.cells #[ii f, ii t, ii m, sC A cs.length c] 122)).alloc (.cells zA 105)
 simp only [World.size_alloc] at r0
 unfold zA at r0 b0 hx0
 unfold vA
 have H8 := qh h8
 have hl8 := chsB_len hok
 have hto := chsB_to hok
 clear h8 hok
 go_enter func150, ntmps150
 go_wp2_with fail
 generalize (((w.alloc (.cells #[inAt xs 0, inAt xs 1, inAt xs 2, inAt xs 3, inAt xs 4, inAt xs 5, inAt xs 6, inAt xs 7] 105)).alloc (.cells #[ii f, ii t, ii m, sC A cs.length c] 122)).alloc (.cells #[ii 0, ii 0, ii 0, ii 0, ii 0, ii 0, ii 0, ii 0] 105)) = W at *
 have hW := r0.lt
 go_loopw [10] (fun i wr => ∃ k : Nat, k <= cs.length /\ i = ii k /\ Own wr w.heap.size 105 8 (inAt (app pN xs (cs.take k))) /\ Box wr (w.heap.size + 1 + 1) 105 #[ii 0, ii 0, ii 0, ii 0, ii 0, ii 0, ii 0, ii 0] /\ Nx w wr) (fun i _ => cs.length - (intOf i).toNat)
 case atStart => exact ⟨0, Nat.zero_le _, rfl, box_inAt b0, r0, hx0⟩
 case round =>
  obtain ⟨k, hk, rfl, hown, hbox, hnx⟩ := hrel
  clear b0 r0 hx0
  by_cases hlt : k < cs.length
  . obtain ⟨b, off, rfl, hb, k0, k1, k2⟩ := (h.below hnx hB).at_ hlt
    obtain ⟨hr0, hr1⟩ := hto.rise k hlt
    obtain ⟨⟨q0, q1, q2⟩, Hq⟩ := nM (cs.getD k chZ)
    rw [Hq.out] at k0 k1 k2 hr0 hr1
    obtain ⟨n0, rfl⟩ : ∃ n : Nat, q0 = n := ⟨q0.toNat, by simp only at hr0; omega⟩
    have hn0 : n0 < 8 := by simp only at hr1; omega
    clear hr0 hr1
    obtain ⟨v, hv⟩ : ∃ v, wr.cell? ⟨w.heap.size, n0, none⟩ = some v := ⟨_, hown.cell hn0⟩
    have hz := hown.frozen n0
    have hlt2 : w.heap.size < wr.heap.size := hown.lt
    go_wp2
    go_roundw
    case rel =>
     have hal := (hown.set (k := n0) hn0 (ii q1)).alloc (.cells #[ii (n0 : Int), ii q1, ii q2] 192)
     refine ⟨k + 1, oM, by go_num, hal.congr fun i hi => ?_, (hbox.far (p := ⟨w.heap.size, n0, none⟩) sM _).alloc _, (hnx.setCell (p := ⟨w.heap.size, n0, none⟩) nle _).alloc _⟩
     rw [app_succ pN xs cs hlt, Hq.out]
     rw [inAt_set _ (by rw [app_len, H8.out]; simpa using hn0)]
     simp [pN]
    case measure => simp [intOf]; omega
  . obtain rfl : k = cs.length := oM
    rw [List.take_length] at hown
    obtain ⟨y0, y1, y2, y3, y4, y5, y6, y7, hy⟩ := list8 (show (app pN xs cs).length = 8 by rw [app_len, H8.out])
    rw [hy] at hown
    have Hy := qh hy
    clear hy
    obtain ⟨c0, c1, c2, c3, c4, c5, c6, c7⟩ := hown.d8
    change wr.cell? _ = some (ii y0) at c0
    change wr.cell? _ = some (ii y1) at c1
    change wr.cell? _ = some (ii y2) at c2
    change wr.cell? _ = some (ii y3) at c3
    change wr.cell? _ = some (ii y4) at c4
    change wr.cell? _ = some (ii y5) at c5
    change wr.cell? _ = some (ii y6) at c6
    change wr.cell? _ = some (ii y7) at c7
    obtain ⟨s0, s1, s2, s3, s4, s5, s6, s7⟩ := hbox.own.d8
    have f0 := hbox.frozen 0
    have f1 := hbox.frozen 1
    have f2 := hbox.frozen 2
    have f3 := hbox.frozen 3
    have f4 := hbox.frozen 4
    have f5 := hbox.frozen 5
    have f6 := hbox.frozen 6
    have f7 := hbox.frozen 7
    go_wp2_with fail
    have q := put8_own hbox.own y0 y1 y2 y3 y4 y5 y6 y7
    have hxf := put8_nx (g := w.heap.size + 1 + 1) hnx oM y0 y1 y2 y3 y4 y5 y6 y7
    unfold put8 at q hxf
    generalize (((((((wr.setCell ⟨w.heap.size + 1 + 1, 0, none⟩ (ii y0)).setCell ⟨w.heap.size + 1 + 1, 1, none⟩ (ii y1)).setCell ⟨w.heap.size + 1 + 1, 2, none⟩ (ii y2)).setCell ⟨w.heap.size + 1 + 1, 3, none⟩ (ii y3)).setCell ⟨w.heap.size + 1 + 1, 4, none⟩ (ii y4)).setCell ⟨w.heap.size + 1 + 1, 5, none⟩ (ii y5)).setCell ⟨w.heap.size + 1 + 1, 6, none⟩ (ii y6)).setCell ⟨w.heap.size + 1 + 1, 7, none⟩ (ii y7) = Wf at *
    obtain ⟨g0, g1, g2, g3, g4, g5, g6, g7⟩ := q.d8
    exact bodyPost_ret (v := vA [y0, y1, y2, y3, y4, y5, y6, y7]) (by simp [results, results150, go_sem, g0, g1, g2, g3, g4, g5, g6, g7, vA]) rfl ⟨congrArg Ending.returned (by show vA _ = vA _; rw [Hy.out]), hxf⟩
theorem valuesBackward_c (f t m : Int) (A : Option Addr) (c B : Nat) (cs : List Chg) (xs : List Int) (w : World) (h : Chs w B A cs) (hB : B <= w.heap.size) (hok : chsB cs = true) (h8 : xs.length = 8) :
 Calls Tryz.prog 151 #[vA xs, .agg #[ii f, ii t, ii m, sC A cs.length c]] w fun e w' => e = .returned (vA (app pO xs cs)) /\ Nx w w' := by
 have b0 := ((Box.new w 105 #[inAt xs 0, inAt xs 1, inAt xs 2, inAt xs 3, inAt xs 4, inAt xs 5, inAt xs 6, inAt xs 7]).alloc (.cells #[ii f, ii t, ii m, sC A cs.length c] 122)).alloc (.cells zA 105)
 have r0 := Box.new ((w.alloc (.cells #[inAt xs 0, inAt xs 1, inAt xs 2, inAt xs 3, inAt xs 4, inAt xs 5, inAt xs 6, inAt xs 7] 105)).alloc (.cells #[ii f, ii t, ii m, sC A cs.length c] 122)) 105 zA
 have hx0 := (((Nx.refl w).alloc (.cells #[inAt xs 0, inAt xs 1, inAt xs 2, inAt xs 3, inAt xs 4, inAt xs 5, inAt xs 6, inAt xs 7] 105)).alloc (.cells #[ii f, ii t, ii m, sC A cs.length c] 122)).alloc (.cells zA 105)
 simp only [World.size_alloc] at r0
 unfold zA at r0 b0 hx0
 unfold vA
 have H8 := qh h8
 have hl8 := chsB_len hok
 have hto := chsB_to hok
 clear h8 hok
 go_enter func151, ntmps151
 go_wp2_with fail
 generalize (((w.alloc (.cells #[inAt xs 0, inAt xs 1, inAt xs 2, inAt xs 3, inAt xs 4, inAt xs 5, inAt xs 6, inAt xs 7] 105)).alloc (.cells #[ii f, ii t, ii m, sC A cs.length c] 122)).alloc (.cells #[ii 0, ii 0, ii 0, ii 0, ii 0, ii 0, ii 0, ii 0] 105)) = W at *
 have hW := r0.lt
 go_loopw [10] (fun i wr => ∃ k : Nat, k <= cs.length /\ i = ii k /\ Own wr w.heap.size 105 8 (inAt (app pO xs (cs.take k))) /\ Box wr (w.heap.size + 1 + 1) 105 #[ii 0, ii 0, ii 0, ii 0, ii 0, ii 0, ii 0, ii 0] /\ Nx w wr) (fun i _ => cs.length - (intOf i).toNat)
 case atStart => exact ⟨0, Nat.zero_le _, rfl, box_inAt b0, r0, hx0⟩
 case round =>
  obtain ⟨k, hk, rfl, hown, hbox, hnx⟩ := hrel
  clear b0 r0 hx0
  by_cases hlt : k < cs.length
  . obtain ⟨b, off, rfl, hb, k0, k1, k2⟩ := (h.below hnx hB).at_ hlt
    obtain ⟨hr0, hr1⟩ := hto.rise k hlt
    obtain ⟨⟨q0, q1, q2⟩, Hq⟩ := nM (cs.getD k chZ)
    rw [Hq.out] at k0 k1 k2 hr0 hr1
    obtain ⟨n0, rfl⟩ : ∃ n : Nat, q0 = n := ⟨q0.toNat, by simp only at hr0; omega⟩
    have hn0 : n0 < 8 := by simp only at hr1; omega
    clear hr0 hr1
    obtain ⟨v, hv⟩ : ∃ v, wr.cell? ⟨w.heap.size, n0, none⟩ = some v := ⟨_, hown.cell hn0⟩
    have hz := hown.frozen n0
    have hlt2 : w.heap.size < wr.heap.size := hown.lt
    go_wp2
    go_roundw
    case rel =>
     have hal := (hown.set (k := n0) hn0 (ii q2)).alloc (.cells #[ii (n0 : Int), ii q1, ii q2] 192)
     refine ⟨k + 1, oM, by go_num, hal.congr fun i hi => ?_, (hbox.far (p := ⟨w.heap.size, n0, none⟩) sM _).alloc _, (hnx.setCell (p := ⟨w.heap.size, n0, none⟩) nle _).alloc _⟩
     rw [app_succ pO xs cs hlt, Hq.out]
     rw [inAt_set _ (by rw [app_len, H8.out]; simpa using hn0)]
     simp [pO]
    case measure => simp [intOf]; omega
  . obtain rfl : k = cs.length := oM
    rw [List.take_length] at hown
    obtain ⟨y0, y1, y2, y3, y4, y5, y6, y7, hy⟩ := list8 (show (app pO xs cs).length = 8 by rw [app_len, H8.out])
    rw [hy] at hown
    have Hy := qh hy
    clear hy
    obtain ⟨c0, c1, c2, c3, c4, c5, c6, c7⟩ := hown.d8
    change wr.cell? _ = some (ii y0) at c0
    change wr.cell? _ = some (ii y1) at c1
    change wr.cell? _ = some (ii y2) at c2
    change wr.cell? _ = some (ii y3) at c3
    change wr.cell? _ = some (ii y4) at c4
    change wr.cell? _ = some (ii y5) at c5
    change wr.cell? _ = some (ii y6) at c6
    change wr.cell? _ = some (ii y7) at c7
    obtain ⟨s0, s1, s2, s3, s4, s5, s6, s7⟩ := hbox.own.d8
    have f0 := hbox.frozen 0
    have f1 := hbox.frozen 1
    have f2 := hbox.frozen 2
    have f3 := hbox.frozen 3
    have f4 := hbox.frozen 4
    have f5 := hbox.frozen 5
    have f6 := hbox.frozen 6
    have f7 := hbox.frozen 7
    go_wp2_with fail
    have q := put8_own hbox.own y0 y1 y2 y3 y4 y5 y6 y7
    have hxf := put8_nx (g := w.heap.size + 1 + 1) hnx oM y0 y1 y2 y3 y4 y5 y6 y7
    unfold put8 at q hxf
    generalize (((((((wr.setCell ⟨w.heap.size + 1 + 1, 0, none⟩ (ii y0)).setCell ⟨w.heap.size + 1 + 1, 1, none⟩ (ii y1)).setCell ⟨w.heap.size + 1 + 1, 2, none⟩ (ii y2)).setCell ⟨w.heap.size + 1 + 1, 3, none⟩ (ii y3)).setCell ⟨w.heap.size + 1 + 1, 4, none⟩ (ii y4)).setCell ⟨w.heap.size + 1 + 1, 5, none⟩ (ii y5)).setCell ⟨w.heap.size + 1 + 1, 6, none⟩ (ii y6)).setCell ⟨w.heap.size + 1 + 1, 7, none⟩ (ii y7) = Wf at *
    obtain ⟨g0, g1, g2, g3, g4, g5, g6, g7⟩ := q.d8
    exact bodyPost_ret (v := vA [y0, y1, y2, y3, y4, y5, y6, y7]) (by simp [results, results151, go_sem, g0, g1, g2, g3, g4, g5, g6, g7, vA]) rfl ⟨congrArg Ending.returned (by show vA _ = vA _; rw [Hy.out]), hxf⟩
def noteM (M : Int -> Option Chg) (cs : List Chg) : Int -> Option Chg := fun k => cs.foldl (fun o c => if c.1 = k then some c else o) (M k)
def noM : Int -> Option Chg := fun _ => none
theorem noteM_succ (M : Int -> Option Chg) (cs : List Chg) {k : Nat} (hk : k < cs.length) : noteM M (cs.take (k + 1)) = fun x => if x = (cs.getD k chZ).1 then some (cs.getD k chZ) else noteM M (cs.take k) x := by
 funext x
 unfold noteM
 rw [List.take_succ_eq_append_getElem hk, List.foldl_append, gdE, List.getElem?_eq_getElem hk]
 show (if cs[k].1 = x then _ else _) = if x = cs[k].1 then _ else _
 by_cases h : cs[k].1 = x
 . rw [if_pos h, if_pos h.symm]; rfl
 . rw [if_neg h, if_neg (fun e => h e.symm)]
theorem wf_small {q : Int} (h0 : 0 <= q) (h1 : q <= 7) : (Lit.int .i64 q).wf = true := by
 obtain ⟨n, rfl⟩ : ∃ n : Nat, q = n := ⟨q.toNat, oM⟩
 have : n = 0 \/ n = 1 \/ n = 2 \/ n = 3 \/ n = 4 \/ n = 5 \/ n = 6 \/ n = 7 := oM
 rcases this with rfl | rfl | rfl | rfl | rfl | rfl | rfl | rfl <;> decide
theorem Chs.rg {w w' : World} {B lo hi : Nat} {A : Option Addr} {cs : List Chg} (h : Chs w B A cs) (hr : Rg lo hi w w') (hB : B <= lo) (hl : lo <= w.heap.size) : Chs w' B A cs := h.below (hr.below hl) hB
theorem Rg.alloc {lo hi : Nat} {a w : World} (h : Rg lo hi a w) (o : Obj) : Rg lo hi a (w.alloc o) := h.trans (Rg.of_nx ((Nx.refl w).alloc o))
theorem noteIn_c (f t m : Int) (A : Option Addr) (c B b : Nat) (cs : List Chg) (M : Int -> Option Chg) (w : World) (h : Chs w B A cs) (hm : MapC w b M) (hB : B <= b) (hok : chsB cs = true) :
 Calls Tryz.prog 203 #[.agg #[ii f, ii t, ii m, sC A cs.length c], .map (some b)] w fun e w' => e = .returned (.tuple #[]) /\ MapC w' b (noteM M cs) /\ Rg b (b + 1) w w' := by
 have hl8 := chsB_len hok
 have hto := chsB_to hok
 have hbw := hm.lt
 clear hok
 go_enter func203, ntmps203
 go_wp2_with fail
 have hm0 := hm.alloc (.cells #[ii f, ii t, ii m, sC A cs.length c] 122)
 have hr0 : Rg b (b + 1) w (w.alloc (.cells #[ii f, ii t, ii m, sC A cs.length c] 122)) := Rg.of_nx ((Nx.refl w).alloc _)
 generalize w.alloc (.cells #[ii f, ii t, ii m, sC A cs.length c] 122) = W at *
 go_loopw [9] (fun i wr => ∃ k : Nat, k <= cs.length /\ i = ii k /\ MapC wr b (noteM M (cs.take k)) /\ Rg b (b + 1) w wr) (fun i _ => cs.length - (intOf i).toNat)
 case atStart => exact ⟨0, Nat.zero_le _, rfl, hm0, hr0⟩
 case round =>
  obtain ⟨k, hk, rfl, hmr, hrg⟩ := hrel
  clear hm0 hr0
  by_cases hlt : k < cs.length
  . obtain ⟨b', off, rfl, hb, k0, k1, k2⟩ := (h.rg hrg hB (Nat.le_of_lt hbw)).at_ hlt
    obtain ⟨hr0, hr1⟩ := hto.rise k hlt
    have HS := qh (noteM_succ M cs hlt)
    obtain ⟨⟨q0, q1, q2⟩, Hq⟩ := nM (cs.getD k chZ)
    rw [Hq.out] at k0 k1 k2 hr0 hr1
    have hwf := wf_small (q := q0) (by simp only at hr0; omega) hr1
    have hma := hmr.alloc (.cells #[ii q0, ii q1, ii q2] 192)
    go_wp2_with (at_mapUpdate; refine wpList_put rfl _ _ _ rfl b _ q0 (q0, q1, q2) rfl hma rfl rfl hwf ?_)
    intro w1 hm1 hr2
    go_wp2
    go_roundw
    case rel => exact ⟨k + 1, oM, by go_num, by rw [HS.out, Hq.out]; exact hm1, (hrg.alloc _).trans hr2⟩
    case measure => simp [intOf]; omega
  . obtain rfl : k = cs.length := oM
    rw [List.take_length] at hmr
    go_wp2
    exact bodyPost_end (v := .tuple #[]) (by simp [results, results203, go_sem]) rfl ⟨rfl, hmr, hrg⟩
def gV (A : Option Addr) (f t m : Int) (n c : Nat) : Array Value := #[ii f, ii t, ii m, sC A n c]
theorem specContentOK_c (A : Option Addr) (c B : Nat) (xs : List Int) (w : World) (h : Ins w B A xs) (hB : B <= w.heap.size) (hn : xs.length <= 1048576) :
 Calls Tryz.prog 222 #[sC A xs.length c] w fun e w' => e = .returned (.bool (contB xs)) /\ Nx w w' := by
 by_cases hl : 4096 < xs.length
 . have hd : decide (4096 < (xs.length : Int)) = true := by simp; omega
   have HR := qh (contB_len (xs := xs) oM).symm
   go_enter func222, ntmps222
   go_wp2
   go_ret
   exact ⟨ret_bool HR.out, Nx.refl _⟩
 have hd : decide (4096 < (xs.length : Int)) = false := by simp; omega
 go_enter func222, ntmps222
 go_wp2
 go_loopw [3] (fun i wr => ∃ k : Nat, k <= xs.length /\ i = ii k /\ InTo xs k /\ Nx w wr) (fun i _ => xs.length - (intOf i).toNat)
 case atStart => exact ⟨0, Nat.zero_le _, rfl, InTo.zero _, Nx.refl _⟩
 case round =>
  obtain ⟨k, hk, rfl, hto, hnx⟩ := hrel
  by_cases hlt : k < xs.length
  . obtain ⟨b, off, rfl, hb, hc⟩ := (h.below hnx hB).at_ hlt
    obtain ⟨s, Hs⟩ := nM (xs.getD k 0)
    rw [Hs.out] at hc
    cases hx : inB 0 999999 s with
    | false =>
      have HX := qh hx
      have HR := qh (contB_no hlt (by rw [Hs.out]; exact hx)).symm
      clear hx
      go_wp2_with (go_at_call 106; refine (l01In_c _ _ _ _).mono ?_; rintro e w' ⟨rfl, rfl⟩; rw [HX.out])
      go_ret
      exact ⟨ret_bool HR.out, hnx⟩
    | true =>
      have HX := qh hx
      clear hx
      go_wp2_with (go_at_call 106; refine (l01In_c _ _ _ _).mono ?_; rintro e w' ⟨rfl, rfl⟩; rw [HX.out])
      go_roundw
      case rel => exact ⟨k + 1, oM, by go_num, hto.succ (by rw [Hs.out]; exact HX.out), hnx⟩
      case measure => simp [intOf]; omega
  . obtain rfl : k = xs.length := oM
    by_cases h8 : xs.length = 8
    . have HR := qh (contB_mk h8 hto).symm
      have he : ((xs.length : Int) == 8) = true := by rw [h8]; rfl
      go_wp2
      go_ret
      exact ⟨ret_bool HR.out, hnx⟩
    . have HR := qh (contB_len h8).symm
      have he : ((xs.length : Int) == 8) = false := by simp; omega
      go_wp2
      go_ret
      exact ⟨ret_bool HR.out, hnx⟩
theorem implContentOK_c (A : Option Addr) (c B : Nat) (xs : List Int) (w : World) (h : Ins w B A xs) (hB : B <= w.heap.size) (hn : xs.length <= 1048576) :
 Calls Tryz.prog 141 #[sC A xs.length c] w fun e w' => e = .returned (.bool (contB xs)) /\ Nx w w' := by
 by_cases h8 : xs.length = 8
 case neg =>
  have hd : ((xs.length : Int) != 8) = true := by simp; omega
  have HR := qh (contB_len (xs := xs) h8).symm
  go_enter func141, ntmps141
  go_wp2
  go_ret
  exact ⟨ret_bool HR.out, Nx.refl _⟩
 have hd : ((xs.length : Int) != 8) = false := by simp; omega
 have H8 := qh h8
 clear h8
 go_enter func141, ntmps141
 go_wp2
 go_loopw [4, 10] (fun v i wr => ∃ k : Nat, k <= xs.length /\ i = ii k /\ InTo xs k /\ Nx w wr) (fun _ i _ => xs.length - (intOf i).toNat)
 case atStart => exact ⟨0, Nat.zero_le _, rfl, InTo.zero _, Nx.refl _⟩
 case round =>
  obtain ⟨k, hk, rfl, hto, hnx⟩ := hrel
  by_cases hlt : k < xs.length
  . obtain ⟨b, off, rfl, hb, hc⟩ := (h.below hnx hB).at_ hlt
    obtain ⟨s, Hs⟩ := nM (xs.getD k 0)
    rw [Hs.out] at hc
    cases hx : inB 0 999999 s with
    | false =>
      have HX := qh hx
      have HR := qh (contB_no hlt (by rw [Hs.out]; exact hx)).symm
      clear hx
      go_wp2_with (go_at_call 153; refine (isValue_c _ _).mono ?_; rintro e w' ⟨rfl, rfl⟩; rw [HX.out])
      go_ret
      exact ⟨ret_bool HR.out, hnx⟩
    | true =>
      have HX := qh hx
      clear hx
      go_wp2_with (go_at_call 153; refine (isValue_c _ _).mono ?_; rintro e w' ⟨rfl, rfl⟩; rw [HX.out])
      go_roundw
      case rel => exact ⟨k + 1, oM, by go_num, hto.succ (by rw [Hs.out]; exact HX.out), hnx⟩
      case measure => simp [intOf]; omega
  . obtain rfl : k = xs.length := oM
    have HR := qh (contB_mk H8.out hto).symm
    go_wp2
    go_ret
    exact ⟨ret_bool HR.out, hnx⟩
section
variable {P : Program} {ops : Array Oper} {Q : Exit -> Act -> World -> Prop} {S : World -> Prop}
def HL (P : Program) (ops : Array Oper) (Q : Exit -> Act -> World -> Prop) (S : World -> Prop) : List Bool -> List Oper -> Act -> World -> Prop
 | false :: cs, o :: l, a, w => ∃ v, YieldsIf P ops S o v a /\ HL P ops Q S cs l (a.put o.dst v) w
 | true :: cs, o :: l, a, w => Region.wanted o (yielded ops a.tmps) = true /\ ∀ K : Act -> World -> Prop, Hid (∀ a' w', S w' -> HL P ops Q S cs l a' w' -> K a' w') -> o.wp P a w K Q
 | _, _, a, w => Q .normal a w
def lexB (md : Region.Mode) (ops : Array Oper) : List Bool -> Nat -> Array Bool -> Bool
 | [], _, listed => Region.ready md ops listed == []
 | false :: cs, k, listed => (Region.ready md ops listed).contains k && Region.free md ops listed k && lexB md ops cs (k + 1) (listed.setIfInBounds k true)
 | true :: cs, k, listed => (Region.ready md ops listed == [k]) && lexB md ops cs (k + 1) (listed.setIfInBounds k true)
theorem HL.take {cs : List Bool} {o : Oper} {l : List Oper} {a : Act} {w : World} {v : Value} (hw : Region.wanted o (yielded ops a.tmps) = true) (h : ∀ w, S w -> (execOp a.eval o).run P w = .ok (.value v) w)
 (hr : HL P ops Q S cs l (a.put o.dst v) w) : HL P ops Q S (false :: cs) (o :: l) a w := ⟨v, .inl ⟨hw, h⟩, hr⟩
theorem HL.skip {cs : List Bool} {o : Oper} {l : List Oper} {a : Act} {w : World} (hw : Region.wanted o (yielded ops a.tmps) = false) (hr : HL P ops Q S cs l (a.put o.dst undef) w) : HL P ops Q S (false :: cs) (o :: l) a w :=
 ⟨undef, .inr ⟨hw, rfl⟩, hr⟩
theorem HL.tk {cs : List Bool} {o : Oper} {l : List Oper} {a : Act} {w : World} {v : Value} (hr : HL P ops Q S cs l (a.put o.dst v) w) (hw : Region.wanted o (yielded ops a.tmps) = true := by rfl)
 (h : ∀ w, S w -> (execOp a.eval o).run P w = .ok (.value v) w := by (intro w hSw; (try dsimp only [CC] at hSw); go_simp; try with_reducible rfl)) : HL P ops Q S (false :: cs) (o :: l) a w := HL.take hw h hr
theorem HL.sk {cs : List Bool} {o : Oper} {l : List Oper} {a : Act} {w : World} (hr : HL P ops Q S cs l (a.put o.dst undef) w) (hw : Region.wanted o (yielded ops a.tmps) = false := by rfl) : HL P ops Q S (false :: cs) (o :: l) a w := HL.skip hw hr
theorem HL.call {cs : List Bool} {o : Oper} {l : List Oper} {a : Act} {w : World} (hw : Region.wanted o (yielded ops a.tmps) = true)
 (h : ∀ K : Act -> World -> Prop, Hid (∀ a' w', S w' -> HL P ops Q S cs l a' w' -> K a' w') -> o.wp P a w K Q) : HL P ops Q S (true :: cs) (o :: l) a w := ⟨hw, h⟩
theorem hLc {cs : List Bool} {o : Oper} {l : List Oper} {a : Act} {w : World}
 (h : ∀ K : Act -> World -> Prop, Hid (∀ a' w', S w' -> HL P ops Q S cs l a' w' -> K a' w') -> o.wp P a w K Q) (hw : Region.wanted o (yielded ops a.tmps) = true := by rfl) : HL P ops Q S (true :: cs) (o :: l) a w := ⟨hw, h⟩
theorem hLr {p q : Prop} (k : q) (h : Hid q → p := by intro k; (repeat ((first | refine HL.tk ?_ | refine HL.sk ?_); (try simp only [Act.put, qqA, qqB, qqC]))); exact k.out) : p := h (Lib.hid k)
theorem HL.done {a : Act} {w : World} (h : Q .normal a w) : HL P ops Q S [] [] a w := h
theorem HL.any {md : Region.Mode} (hs : Region.noSelect ops = true) (hQ : ∀ c a d v w, Q (.panic c) (Act.put a d v) w -> Q (.panic c) a w) :
 ∀ (cs : List Bool) (l : List Oper) (k : Nat) (listed : Array Bool) (a : Act) (w : World), (∀ j, j < l.length -> ops[k + j]? = l[j]?) -> l.length = cs.length -> lexB md ops cs k listed = true -> S w ->
   HL P ops Q S cs l a w -> wpAnyH P md ops Q S cs.length listed a w
 | [], [], k, listed, a, w, _, _, hB, _, h => by
   refine wpAnyH_done ?_ h _
   simpa [lexB] using hB
 | [], _ :: _, _, _, _, _, _, hl, _, _, _ => by simp at hl
 | _ :: _, [], _, _, _, _, _, hl, _, _, _ => by simp at hl
 | c :: cs, o :: l, k, listed, a, w, ho, hl, hB, hS, h => by
   have h0 : ops[k]? = some o := by simpa using ho 0 (by simp)
   have ho' : ∀ j, j < l.length -> ops[k + 1 + j]? = l[j]? := fun j hj => by
    have := ho (j + 1) sM
    rw [show k + 1 + j = k + (j + 1) by omega, this]; simp
   have hl' : l.length = cs.length := by simpa using hl
   cases c with
   | false =>
     simp only [lexB, Bool.and_eq_true] at hB
     obtain ⟨⟨hr, hf⟩, hB'⟩ := hB
     obtain ⟨v, hy, hK⟩ := h
     exact wpAnyH_take h0 hs hf hr (fun c a w => hQ c a _ _ w) hy hS (HL.any hs hQ cs l (k + 1) _ _ w ho' hl' hB' hS hK)
   | true =>
     simp only [lexB, Bool.and_eq_true, beq_iff_eq] at hB
     obtain ⟨hr, hB'⟩ := hB
     obtain ⟨hw, hK⟩ := h
     refine wpAnyH_all hr (by simp) fun i hi => ?_
     obtain rfl : i = k := by simpa using hi
     unfold wpOp
     simp only [h0, hw, if_true]
     exact .inl (hK _ (qh fun a' w' hS' h' => ⟨hS', HL.any hs hQ cs l (i + 1) _ a' w' ho' hl' hB' hS' h'⟩))
theorem wp_region_lex {id : Nat} {a : Act} {w : World} {l : List Oper} (cs : List Bool) (S : World -> Prop) (hm : P.follows .mixedOrders = true) (hs : Region.noSelect l.toArray = true) (hl : l.length = cs.length)
 (hB : lexB .any l.toArray cs 0 (Array.replicate l.toArray.size false) = true) (hQ : ∀ c a d v w, Q (.panic c) (Act.put a d v) w -> Q (.panic c) a w) (hS : S w.drew)
 (h : HL P l.toArray Q S cs l a w.drew) : (Code.region id l.toArray true).wp P Q a w := by
 refine wp_region_held_drew (S := S) hm hS fun _ => ?_
 have := HL.any (md := .any) hs hQ cs l 0 (Array.replicate l.toArray.size false) a w.drew (fun j hj => by simp) hl hB hS h
 have e : l.toArray.size = cs.length := by simpa using hl
 rw [e]
 rw [e] at this
 exact this
theorem wp_lexA {id : Nat} {a : Act} {w : World} {l : List Oper} (cs : List Bool) (S : World -> Prop) (hS : S w.drew) (h : HL P l.toArray Q S cs l a w.drew) (hm : P.follows .mixedOrders = true := by kernel_rfl) (hs : Region.noSelect l.toArray = true := by kernel_rfl) (hl : l.length = cs.length := by rfl)
 (hB : lexB .any l.toArray cs 0 (Array.replicate l.toArray.size false) = true := by kernel_rfl) (hQ : ∀ c a d v w, Q (.panic c) (Act.put a d v) w -> Q (.panic c) a w := by exact (fun _ _ d _ _ h => by cases d <;> exact h)) : (Code.region id l.toArray true).wp P Q a w := wp_region_lex cs S hm hs hl hB hQ hS h
end
theorem segRight_c (f t m : Int) (A : Option Addr) (c B : Nat) (cs : List Chg) (w : World) (h : Chs w B A cs) (hB : B <= w.heap.size) (hn : cs.length <= 1048576) :
 Calls Tryz.prog 201 #[.agg #[ii f, ii t, ii m, sC A cs.length c]] w fun e w' => e = .returned (.bool (segB f t m cs)) /\ Nx w w' := by
 cases x1 : inB 0 999999 f with
 | false =>
   have H1 := qh x1
   clear x1
   have HR := qh (segB_no (f := f) (t := t) (m := m) (cs := cs) (.inr (.inr (.inl H1.out)))).symm
   go_enter func201, ntmps201
   go_wp2_with (first
    | (go_at_call 100; refine (isPosition_c _ _).mono ?_; rintro e w' ⟨rfl, rfl⟩; first | rw [H1.out])
    | (go_at_call 154; refine (isTime_c _ _).mono ?_; rintro e w' ⟨rfl, rfl⟩; fail))
   go_ret
   exact ⟨ret_bool HR.out, (Nx.refl _).alloc _⟩
 | true =>
 have H1 := qh x1
 obtain ⟨hf0, hf1⟩ := inB_yes x1
 clear x1
 cases x2 : inB 0 999999 t with
 | false =>
   have H2 := qh x2
   clear x2
   have HR := qh (segB_no (f := f) (t := t) (m := m) (cs := cs) (.inr (.inr (.inr (.inl H2.out))))).symm
   go_enter func201, ntmps201
   go_wp2_with (first
    | (go_at_call 100; refine (isPosition_c _ _).mono ?_; rintro e w' ⟨rfl, rfl⟩; first | rw [H1.out] | rw [H2.out])
    | (go_at_call 154; refine (isTime_c _ _).mono ?_; rintro e w' ⟨rfl, rfl⟩; fail))
   go_ret
   exact ⟨ret_bool HR.out, (Nx.refl _).alloc _⟩
 | true =>
 have H2 := qh x2
 obtain ⟨ht0, ht1⟩ := inB_yes x2
 clear x2
 by_cases x3 : f < t
 case neg =>
  have h3 : decide (t <= f) = true := by simp; omega
  have HR := qh (segB_no (f := f) (t := t) (m := m) (cs := cs) (.inr (.inr (.inr (.inr (.inl sM)))))).symm
  go_enter func201, ntmps201
  go_wp2_with (first
   | (go_at_call 100; refine (isPosition_c _ _).mono ?_; rintro e w' ⟨rfl, rfl⟩; first | rw [H1.out] | rw [H2.out])
   | (go_at_call 154; refine (isTime_c _ _).mono ?_; rintro e w' ⟨rfl, rfl⟩; fail))
  go_ret
  exact ⟨ret_bool HR.out, (Nx.refl _).alloc _⟩
 have h3 : decide (t <= f) = false := by simp; omega
 cases x4 : inB 0 999999 m with
 | false =>
   have H4 := qh x4
   clear x4
   have HR := qh (segB_no (f := f) (t := t) (m := m) (cs := cs) (.inr (.inr (.inr (.inr (.inr (.inl H4.out))))))).symm
   go_enter func201, ntmps201
   go_wp2_with (first
    | (go_at_call 100; refine (isPosition_c _ _).mono ?_; rintro e w' ⟨rfl, rfl⟩; first | rw [H1.out] | rw [H2.out])
    | (go_at_call 154; refine (isTime_c _ _).mono ?_; rintro e w' ⟨rfl, rfl⟩; rw [H4.out]))
   go_ret
   exact ⟨ret_bool HR.out, (Nx.refl _).alloc _⟩
 | true =>
 have H4 := qh x4
 clear x4
 go_enter func201, ntmps201
 go_wp2_with (first
  | (go_at_call 100; refine (isPosition_c _ _).mono ?_; rintro e w' ⟨rfl, rfl⟩; first | rw [H1.out] | rw [H2.out])
  | (go_at_call 154; refine (isTime_c _ _).mono ?_; rintro e w' ⟨rfl, rfl⟩; rw [H4.out]))
 have b0 := Box.new w 122 #[ii f, ii t, ii m, sC A cs.length c]
 have hx0 := (Nx.refl w).alloc (.cells #[ii f, ii t, ii m, sC A cs.length c] 122)
 generalize w.alloc (.cells #[ii f, ii t, ii m, sC A cs.length c] 122) = W at *
 clear h3
 go_loopw [31] (fun i wr => ∃ k : Nat, k <= cs.length /\ i = ii k /\ OkTo cs k /\ Nx W wr) (fun i _ => cs.length - (intOf i).toNat)
 case atStart => exact ⟨0, Nat.zero_le _, rfl, OkTo.zero _, Nx.refl _⟩
 case round =>
  obtain ⟨k, hk, rfl, hto, hnx⟩ := hrel
  obtain ⟨_, _, _, c3⟩ := (b0.nx hnx).d4
  by_cases hlt : k < cs.length
  . obtain ⟨b, off, rfl, hb, k0, k1, k2⟩ := (h.below (hx0.trans hnx) hB).at_ hlt
    obtain ⟨⟨q0, q1, q2⟩, Hq⟩ := nM (cs.getD k chZ)
    rw [Hq.out] at k0 k1 k2
    cases hch : chB (q0, q1, q2) with
    | false =>
      have HC := qh hch
      have HR := qh (segB_no (f := f) (t := t) (m := m) (cs := cs) (.inr (.inr (.inr (.inr (.inr (.inr (chsB_no hlt (by unfold okCh; rw [Hq.out, hch]; rfl))))))))).symm
      clear hch
      go_wp2_with fail
      have bq := Box.new wr 192 #[ii q0, ii q1, ii q2]
      have hnxq := hnx.alloc (.cells #[ii q0, ii q1, ii q2] 192)
      have b1 := (b0.nx hnx).alloc (.cells #[ii q0, ii q1, ii q2] 192)
      generalize wr.alloc (.cells #[ii q0, ii q1, ii q2] 192) = wq at *
      clear c3 k0 k1 k2
      obtain ⟨_, _, _, c3⟩ := b1.d4
      obtain ⟨k0, k1, k2⟩ := bq.d3
      have hbv : w.heap.size < wq.heap.size := b1.lt
      refine wp_lexA (ff :: true :: kf9 (kf8 ([]))) (fun w' => CC w' w.heap.size 3 (sC (some ⟨b, off, none⟩) cs.length c) /\ CC w' wr.heap.size 0 (ii q0) /\ CC w' wr.heap.size 1 (ii q1) /\ CC w' wr.heap.size 2 (ii q2)) (by exact ⟨c3, k0, k1, k2⟩) ?_
      refine hLr ?_
      refine hLc fun K hK => ?_
      go_simp
      refine (changeRight_c q0 q1 q2 _).mono ?_; rintro e w1 ⟨rfl, hnx1⟩; rw [HC.out]; have d3 := (hnx1.cell (p := ⟨w.heap.size, 3, none⟩) hbv).trans c3; have l0 := (hnx1.cell (p := ⟨wr.heap.size, 0, none⟩) bq.lt).trans k0; have l1 := (hnx1.cell (p := ⟨wr.heap.size, 1, none⟩) bq.lt).trans k1; have l2 := (hnx1.cell (p := ⟨wr.heap.size, 2, none⟩) bq.lt).trans k2
      go_wp2_with fail
      refine hK.out _ _ (by exact ⟨d3, l0, l1, l2⟩) ?_
      clear hK K
      refine nZ ?_
      refine hLr ?_
      refine HL.done ?_
      go_wp2
      go_ret
      exact ⟨ret_bool HR.out, hx0.trans (hnxq.drew.trans hnx1)⟩
    | true =>
      have HC := qh hch
      clear hch
      by_cases hk0 : k = 0
      . have hd0 : decide (0 < (k : Int)) = false := by simp; omega
        have hd1 : decide (0 < k) = false := by simp; omega
        have HO := qh (show okCh cs k = true by unfold okCh; rw [Hq.out, HC.out, hk0]; rfl)
        clear hk0
        go_wp2_with fail
        have bq := Box.new wr 192 #[ii q0, ii q1, ii q2]
        have hnxq := hnx.alloc (.cells #[ii q0, ii q1, ii q2] 192)
        have b1 := (b0.nx hnx).alloc (.cells #[ii q0, ii q1, ii q2] 192)
        generalize wr.alloc (.cells #[ii q0, ii q1, ii q2] 192) = wq at *
        clear c3 k0 k1 k2
        obtain ⟨_, _, _, c3⟩ := b1.d4
        obtain ⟨k0, k1, k2⟩ := bq.d3
        have hbv : w.heap.size < wq.heap.size := b1.lt
        refine wp_lexA (ff :: true :: kf9 (kf8 ([]))) (fun w' => CC w' w.heap.size 3 (sC (some ⟨b, off, none⟩) cs.length c) /\ CC w' wr.heap.size 0 (ii q0) /\ CC w' wr.heap.size 1 (ii q1) /\ CC w' wr.heap.size 2 (ii q2)) (by exact ⟨c3, k0, k1, k2⟩) ?_
        refine hLr ?_
        refine hLc fun K hK => ?_
        go_simp
        refine (changeRight_c q0 q1 q2 _).mono ?_; rintro e w1 ⟨rfl, hnx1⟩; rw [HC.out]; have d3 := (hnx1.cell (p := ⟨w.heap.size, 3, none⟩) hbv).trans c3; have l0 := (hnx1.cell (p := ⟨wr.heap.size, 0, none⟩) bq.lt).trans k0; have l1 := (hnx1.cell (p := ⟨wr.heap.size, 1, none⟩) bq.lt).trans k1; have l2 := (hnx1.cell (p := ⟨wr.heap.size, 2, none⟩) bq.lt).trans k2
        go_wp2_with fail
        refine hK.out _ _ (by exact ⟨d3, l0, l1, l2⟩) ?_
        clear hK K
        refine nZ ?_
        refine hLr ?_
        refine HL.done ?_
        go_wp2
        go_roundw
        case rel => exact ⟨k + 1, oM, by go_num, hto.succ HO.out, hnxq.drew.trans hnx1⟩
        case measure => simp [intOf]; omega
      . obtain ⟨j, rfl⟩ : ∃ j, k = j + 1 := ⟨k - 1, oM⟩
        obtain ⟨b', off', he, _, m0, _, _⟩ := (h.below (hx0.trans hnx) hB).at_ (k := j) oM
        obtain ⟨rfl, rfl⟩ : b = b' /\ off = off' := by simpa using he
        clear he
        obtain ⟨⟨r0, r1, r2⟩, Hr⟩ := nM (cs.getD j chZ)
        rw [Hr.out] at m0
        have hb2 : b < wr.heap.size := by have := hx0.size; have := hnx.size; omega
        have hd0 : decide (0 < ((j : Int) + 1)) = true := by simp
        have hd1 : decide (0 < j + 1) = true := by simp
        have hi1 : (0 : Int) <= (j : Int) + 1 := oM
        have hi2 : (j : Int) + 1 < (cs.length : Int) := oM
        have hi4 : (j : Int) < (cs.length : Int) := oM
        have hi5 : j < cs.length := oM
        have hi6 : (0 : Int) <= (j : Int) := oM
        by_cases hlt2 : r0 < q0
        . have hd : decide (q0 <= r0) = false := by simp; omega
          have HO := qh (show okCh cs (j + 1) = true by unfold okCh; rw [Hq.out, HC.out, Nat.add_sub_cancel, Hr.out]; simp [hlt2])
          go_wp2_with fail
          have bq := Box.new wr 192 #[ii q0, ii q1, ii q2]
          have hnxq := hnx.alloc (.cells #[ii q0, ii q1, ii q2] 192)
          have b1 := (b0.nx hnx).alloc (.cells #[ii q0, ii q1, ii q2] 192)
          replace m0 := (((Nx.refl wr).alloc (.cells #[ii q0, ii q1, ii q2] 192)).cell (p := ⟨b, off + j * 3, none⟩) hb2).trans m0
          generalize wr.alloc (.cells #[ii q0, ii q1, ii q2] 192) = wq at *
          clear c3 k0 k1 k2
          obtain ⟨_, _, _, c3⟩ := b1.d4
          obtain ⟨k0, k1, k2⟩ := bq.d3
          have hbv : w.heap.size < wq.heap.size := b1.lt
          have hbw : b < wq.heap.size := by have := bq.lt; omega
          have hi3 : ((j : Int) + 1).toNat = j + 1 := oM
          have hw1 : IntKind.i64.wrap ((j : Int) + 1 - 1) = (j : Int) := by rw [Int.add_sub_cancel]; exact IntWalk.i64_in _ oM
          have hw2 : IntKind.i64.wrap (j : Int) = (j : Int) := IntWalk.i64_in _ oM
          refine wp_lexA (ff :: true :: kf9 (kf8 ([]))) (fun w' => CC w' w.heap.size 3 (sC (some ⟨b, off, none⟩) cs.length c) /\ CC w' wr.heap.size 0 (ii q0) /\ CC w' wr.heap.size 1 (ii q1) /\ CC w' wr.heap.size 2 (ii q2) /\ CC w' b (off + j * 3) (ii r0)) (by exact ⟨c3, k0, k1, k2, m0⟩) ?_
          refine hLr ?_
          refine hLc fun K hK => ?_
          go_simp
          refine (changeRight_c q0 q1 q2 _).mono ?_; rintro e w1 ⟨rfl, hnx1⟩; rw [HC.out]; have d3 := (hnx1.cell (p := ⟨w.heap.size, 3, none⟩) hbv).trans c3; have l0 := (hnx1.cell (p := ⟨wr.heap.size, 0, none⟩) bq.lt).trans k0; have l1 := (hnx1.cell (p := ⟨wr.heap.size, 1, none⟩) bq.lt).trans k1; have l2 := (hnx1.cell (p := ⟨wr.heap.size, 2, none⟩) bq.lt).trans k2; have n0 := (hnx1.cell (p := ⟨b, off + j * 3, none⟩) hbw).trans m0
          go_wp2_with fail
          refine hK.out _ _ (by exact ⟨d3, l0, l1, l2, n0⟩) ?_
          clear hK K
          refine nZ ?_
          refine hLr ?_
          refine HL.done ?_
          clear hw1 hw2 hi6 hi1 hi2 hi3 hi4 hi5
          go_wp2
          go_roundw
          case rel => exact ⟨j + 1 + 1, oM, by go_num, hto.succ HO.out, hnxq.drew.trans hnx1⟩
          case measure => simp [intOf]; omega
        . have hd : decide (q0 <= r0) = true := by simp; omega
          have HR := qh (segB_no (f := f) (t := t) (m := m) (cs := cs) (.inr (.inr (.inr (.inr (.inr (.inr (chsB_no hlt (by unfold okCh; rw [Hq.out, Nat.add_sub_cancel, Hr.out]; simp [hlt2]))))))))).symm
          go_wp2_with fail
          have bq := Box.new wr 192 #[ii q0, ii q1, ii q2]
          have hnxq := hnx.alloc (.cells #[ii q0, ii q1, ii q2] 192)
          have b1 := (b0.nx hnx).alloc (.cells #[ii q0, ii q1, ii q2] 192)
          replace m0 := (((Nx.refl wr).alloc (.cells #[ii q0, ii q1, ii q2] 192)).cell (p := ⟨b, off + j * 3, none⟩) hb2).trans m0
          generalize wr.alloc (.cells #[ii q0, ii q1, ii q2] 192) = wq at *
          clear c3 k0 k1 k2
          obtain ⟨_, _, _, c3⟩ := b1.d4
          obtain ⟨k0, k1, k2⟩ := bq.d3
          have hbv : w.heap.size < wq.heap.size := b1.lt
          have hbw : b < wq.heap.size := by have := bq.lt; omega
          have hi3 : ((j : Int) + 1).toNat = j + 1 := oM
          have hw1 : IntKind.i64.wrap ((j : Int) + 1 - 1) = (j : Int) := by rw [Int.add_sub_cancel]; exact IntWalk.i64_in _ oM
          have hw2 : IntKind.i64.wrap (j : Int) = (j : Int) := IntWalk.i64_in _ oM
          refine wp_lexA (ff :: true :: kf9 (kf8 ([]))) (fun w' => CC w' w.heap.size 3 (sC (some ⟨b, off, none⟩) cs.length c) /\ CC w' wr.heap.size 0 (ii q0) /\ CC w' wr.heap.size 1 (ii q1) /\ CC w' wr.heap.size 2 (ii q2) /\ CC w' b (off + j * 3) (ii r0)) (by exact ⟨c3, k0, k1, k2, m0⟩) ?_
          refine hLr ?_
          refine hLc fun K hK => ?_
          go_simp
          refine (changeRight_c q0 q1 q2 _).mono ?_; rintro e w1 ⟨rfl, hnx1⟩; rw [HC.out]; have d3 := (hnx1.cell (p := ⟨w.heap.size, 3, none⟩) hbv).trans c3; have l0 := (hnx1.cell (p := ⟨wr.heap.size, 0, none⟩) bq.lt).trans k0; have l1 := (hnx1.cell (p := ⟨wr.heap.size, 1, none⟩) bq.lt).trans k1; have l2 := (hnx1.cell (p := ⟨wr.heap.size, 2, none⟩) bq.lt).trans k2; have n0 := (hnx1.cell (p := ⟨b, off + j * 3, none⟩) hbw).trans m0
          go_wp2_with fail
          refine hK.out _ _ (by exact ⟨d3, l0, l1, l2, n0⟩) ?_
          clear hK K
          refine nZ ?_
          refine hLr ?_
          refine HL.done ?_
          clear hw1 hw2 hi6 hi1 hi2 hi3 hi4 hi5
          go_wp2
          go_ret
          exact ⟨ret_bool HR.out, hx0.trans (hnxq.drew.trans hnx1)⟩
  . obtain rfl : k = cs.length := oM
    have HR := qh (segB_mk hf0 x3 ht1 H4.out hto.all).symm
    go_wp2
    go_ret
    exact ⟨ret_bool HR.out, hx0.trans hnx⟩
end
end Go.Proofs.YtieoiailjjnnoaaGreatDoor
