/-
  Texts of the proof, in their order.
  Conditions: those of each.
-/
import Derived.Test.YtieoiailjjnnoaaGreatDoorRows
import Derived.JoinedOf
import Derived.WalkKit
import Derived.ProofKit
import Derived.OpenShut
import Derived.ShutString
import Derived.WalkSpells
import Derived.Lib.Hide
import Derived.Below
import Derived.Laws.OwnMore
import Derived.Deep.Draws
import Derived.Laws.Rows
import Derived.Laws.MakeOwn
import Derived.Laws.Entries
import Derived.OwnWalk
import Derived.Outline
import Derived.Deep.RegionHeld3
import Derived.Maps.Own
import Derived.Deep.QuietTactic
import Derived.BigQuiet
import Derived.Laws.Append
import Derived.Laws.AppendOwn
import Derived.Laws.CopyRow
import Derived.Laws.Cells
import Derived.RegionTactic
import Derived.Deep.RegionLaw
import Derived.IntWalk
namespace Go.Proofs.YtieoiailjjnnoaaGreatDoor.fnSuperJ
set_option linter.unusedVariables false
set_option maxRecDepth 100000
set_option maxHeartbeats 16000000
theorem both {a b : Bool} (ha : a = true) (hb : b = true) : (a && b) = true := by rw [ha, hb]; rfl
theorem p0 : (Rows.fnSuperRow.wf (OpenSpec.ofChange Rows.fnSuperSpec)) = true := by kernel_rfl
theorem p1 : (laidOutB Tryz.checked.prog) = true := by kernel_rfl
theorem p2 : (mapsRowed Tryz.checked.prog) = true := by kernel_rfl
theorem p3 : (Tryz.f3.params.all (Tryz.checked.prog.readableRec ·)) = true := by kernel_rfl
theorem p4 : (namedTie Tryz.checked.prog Rows.fnSuperRow.named Rows.fnSuperSpec.vars) = true := by kernel_rfl
theorem p5 : ((Rows.fnSuperRow.stops == [])) = true := by kernel_rfl
theorem p6 : ((Tryz.checked.prog.stops == [])) = true := by kernel_rfl
theorem p7 : ((Rows.fnSuperRow.knobs == [])) = true := by kernel_rfl
theorem p8 : ((Tryz.checked.prog.stopKnobs == [])) = true := by kernel_rfl
theorem p9 : ((Rows.fnSuperRow.inPlace == Tryz.checked.prog.inPlace 3)) = true := by kernel_rfl
theorem p10 : ((Rows.fnSuperRow.unfollowed == Tryz.checked.prog.unfollowed 3)) = true := by kernel_rfl
theorem p11 : ((Rows.fnSuperRow.recurses == Tryz.checked.prog.recurses 3)) = true := by kernel_rfl
theorem p12 : ((Rows.fnSuperRow.named == Tryz.checked.prog.varsNamed 3)) = true := by kernel_rfl
theorem p13 : ((Rows.fnSuperRow.maps == (Tryz.f3.params.toList ++ Rows.fnSuperSpec.plain.varTypes Tryz.checked.prog).any (Tryz.checked.prog.mapsRec ·))) = true := by kernel_rfl
theorem p14 : ((Rows.fnSuperRow.ifaces == (Tryz.f3.params.toList ++ Rows.fnSuperSpec.plain.varTypes Tryz.checked.prog).any (Tryz.checked.prog.ifacesRec ·))) = true := by kernel_rfl
theorem p15 : ((Rows.fnSuperRow.mapsOut == Tryz.checked.prog.mapsAmong Tryz.f3.resultTypes.toList)) = true := by kernel_rfl
theorem p16 : ((Rows.fnSuperRow.loops == (Tryz.f3.params.toList ++ Rows.fnSuperSpec.plain.varTypes Tryz.checked.prog).any (Tryz.checked.prog.loopsFrom ·))) = true := by kernel_rfl
theorem p17 : ((Rows.fnSuperRow.wideKeys == (Tryz.f3.params.toList ++ Rows.fnSuperSpec.plain.varTypes Tryz.checked.prog ++ Tryz.f3.resultTypes.toList).any (Tryz.checked.prog.wideKeysFrom ·))) = true := by kernel_rfl
theorem p18 : (Rows.fnSuperSpec.vars.all (Tryz.checked.prog.varReadable ·)) = true := by kernel_rfl
theorem p19 : (Tryz.f3.resultTypes.all (fun t => Tryz.checked.prog.readableRec t && decide (t < Tryz.checked.prog.types.size))) = true := by kernel_rfl
theorem p20 : ((Rows.fnSuperRow.ifacesOut == Tryz.f3.resultTypes.toList.any (Tryz.checked.prog.ifacesRec ·))) = true := by kernel_rfl
theorem p21 : ((Rows.fnSuperRow.loopsOut == Tryz.f3.resultTypes.toList.any (Tryz.checked.prog.loopsFrom ·))) = true := by kernel_rfl
theorem p22 : ((Rows.fnSuperRow.plainKeys == Tryz.checked.prog.plainKeys)) = true := by kernel_rfl
theorem p23 : (Rows.fnSuperRow.shortTexts.isNone) = true := by kernel_rfl
theorem p24 : (Tryz.checked.prog.stopsHeard) = true := by kernel_rfl
theorem p25 : (Tryz.checked.prog.mayEnter) = true := by kernel_rfl
theorem p26 : ((Rows.fnSuperRow.lifted == Tryz.checked.prog.liftsFinal)) = true := by kernel_rfl
theorem p27 : ((Tryz.checked.prog.make == some Rows.fnSuperRow.make)) = true := by kernel_rfl
theorem p28 : ((Rows.fnSuperRow.kinds == (if Rows.fnSuperRow.domain.isEmpty then [] else Tryz.f3.params.toList.map fun t => match Tryz.checked.prog.underlying t with | some (.int k) => some k | _ => none))) = true := by kernel_rfl
theorem p29 : ((Rows.fnSuperRow.pinned == Rows.fnSuperRow.pinnedBy)) = true := by kernel_rfl
theorem p30 : ((Rows.fnSuperRow.veiled == (Tryz.f3.params.toList ++ Rows.fnSuperSpec.plain.varTypes Tryz.checked.prog ++ Tryz.f3.resultTypes.toList).any (Tryz.checked.prog.veiledRec ·))) = true := by kernel_rfl
theorem p31 : (Rows.fnSuperRow.veiledFits Tryz.checked.prog Tryz.f3.params.toList (Tryz.f3.params.toList ++ Rows.fnSuperSpec.plain.varTypes Tryz.checked.prog ++ Tryz.f3.resultTypes.toList)) = true := by kernel_rfl
theorem facts : joinedFacts Tryz.checked.prog 3 Tryz.f3 Rows.fnSuperSpec Rows.fnSuperRow = true := (both (both (both (both (both (both (both (both (both (both (both (both (both (both (both (both (both (both (both (both (both (both (both (both (both (both (both (both (both (both (both p0 p1) p2) p3) p4) p5) p6) p7) p8) p9) p10) p11) p12) p13) p14) p15) p16) p17) p18) p19) p20) p21) p22) p23) p24) p25) p26) p27) p28) p29) p30) p31)
end Go.Proofs.YtieoiailjjnnoaaGreatDoor.fnSuperJ
namespace Go.Proofs.YtieoiailjjnnoaaGreatDoor
set_option linter.unusedVariables false
set_option maxRecDepth 100000
set_option maxHeartbeats 16000000
open Go.RowKit
theorem qqA {α : Type _} (l : List α) (i : Nat) (a : α) : l.toArray.setIfInBounds i a = (l.set i a).toArray := List.setIfInBounds_toArray l i a
theorem qqB {α : Type _} {x : α} {xs : List α} {a : α} : (x :: xs).set 0 a = a :: xs := List.set_cons_zero
theorem qqC {α : Type _} {x : α} {xs : List α} {i : Nat} {a : α} : (x :: xs).set (i + 1) a = x :: xs.set i a := List.set_cons_succ
abbrev BA := ByteArray
theorem qh {p : Prop} (h : p) : Hid p := Lib.hid h
theorem nle {n : Nat} : n ≤ n := Nat.le_refl n
theorem ntr {a b c : Nat} (h : a ≤ b) (k : b ≤ c) : a ≤ c := Nat.le_trans h k
theorem gdE {α : Type _} {l : List α} {i : Nat} {a : α} : l.getD i a = l[i]?.getD a := List.getD_eq_getElem?_getD
abbrev ff : Bool := false
abbrev ii (x : Int) : Value := .int .i64 x
abbrev nsl : Value := .slice none 0 0
theorem ret_bool {a b : Bool} (h : a = b) : Ending.returned (.bool a) = .returned (.bool b) := by rw [h]
theorem ret_int {a b : Int} (h : a = b) : Ending.returned (ii a) = .returned (ii b) := by rw [h]
abbrev Nx (w w' : World) : Prop := Below w.heap.size w w'
theorem Nx.refl (w : World) : Nx w w := Below.refl _ _
theorem Nx.trans {a b c : World} (h : Nx a b) (k : Nx b c) : Nx a c := Below.trans h (Below.mono k h.size)
theorem Nx.alloc {a w : World} (h : Nx a w) (o : Obj) : Nx a (w.alloc o) := Below.alloc h h.size o
theorem Nx.drew {a w : World} (h : Nx a w) : Nx a w.drew := ⟨h.os, h.tape, h.output, h.size, h.block⟩
theorem Nx.drewN {a w : World} (h : Nx a w) (n : Nat) : Nx a (w.drewN n) := ⟨h.os, h.tape, h.output, h.size, h.block⟩
theorem Nx.drew_r {a w : World} (h : Nx a.drew w) : Nx a w := ⟨h.os, h.tape, h.output, h.size, h.block⟩
def Row (w : World) (B : Nat) (A : Option Addr) (m : Nat) (f : Nat → Value) : Prop :=
 0 < m → ∃ b off, A = some ⟨b, off, none⟩ ∧ b < B ∧ ∀ i, i < m → w.cell? ⟨b, off + i, none⟩ = some (f i)
theorem Row.keep {w w' : World} {B m : Nat} {A : Option Addr} {f : Nat → Value} (h : Row w B A m f) (hk : ∀ p : Addr, p.block < B → w'.cell? p = w.cell? p) : Row w' B A m f := fun hm => by
 obtain ⟨b, off, e, hb, hc⟩ := h hm
 exact ⟨b, off, e, hb, fun i hi => (hk _ hb).trans (hc i hi)⟩
theorem Row.more {w : World} {B B' m : Nat} {A : Option Addr} {f : Nat → Value} (h : Row w B A m f) (hB : B ≤ B') : Row w B' A m f := fun hm => by
 obtain ⟨b, off, e, hb, hc⟩ := h hm
 exact ⟨b, off, e, by omega, hc⟩
theorem Row.below {w w' : World} {B B' m : Nat} {A : Option Addr} {f : Nat → Value} (h : Row w B A m f) (hb : Below B' w w') (hB : B ≤ B') : Row w' B A m f := h.keep fun _ hp => hb.cell (by omega)
def blAt (bs : List Bool) (i : Nat) : Value := .bool (bs.getD i false)
def Bls (w : World) (B : Nat) (A : Option Addr) (n : Nat) (bs : List Bool) : Prop := bs.length = n ∧ Row w B A n (blAt bs)
theorem Bls.below {w w' : World} {B B' n : Nat} {A : Option Addr} {bs : List Bool} (h : Bls w B A n bs) (hb : Below B' w w') (hB : B ≤ B') : Bls w' B A n bs := ⟨h.1, h.2.below hb hB⟩
theorem Bls.more {w : World} {B B' n : Nat} {A : Option Addr} {bs : List Bool} (h : Bls w B A n bs) (hB : B ≤ B') : Bls w B' A n bs := ⟨h.1, h.2.more hB⟩
theorem Bls.at_ {w : World} {B n k : Nat} {A : Option Addr} {bs : List Bool} (h : Bls w B A n bs) (hk : k < n) :
 ∃ b off, A = some ⟨b, off, none⟩ ∧ b < B ∧ w.cell? ⟨b, off + k, none⟩ = some (.bool (bs.getD k false)) := by
 obtain ⟨b, off, e, hb, hc⟩ := h.2 (by omega)
 exact ⟨b, off, e, hb, hc k hk⟩
def Own (w : World) (g : Nat) (t : TypeId) (m : Nat) (f : Nat → Value) : Prop :=
 ∃ cs : Array Value, w.heap[g]? = some (.cells cs t (0, 0)) ∧ m ≤ cs.size ∧ ∀ i, i < m → cs[i]? = some (f i)
section
variable {w w' : World} {g : Nat} {t : TypeId} {m : Nat} {f : Nat → Value}
theorem Own.lt (h : Own w g t m f) : g < w.heap.size := by
 obtain ⟨cs, h, _⟩ := h
 rcases Nat.lt_or_ge g w.heap.size with hlt | hge
 · exact hlt
 · rw [Array.getElem?_eq_none hge] at h; cases h
theorem Own.cell (h : Own w g t m f) {i : Nat} (hi : i < m) : w.cell? ⟨g, i, none⟩ = some (f i) := by
 obtain ⟨cs, h, _, hc⟩ := h
 exact (cell_of_row w g i cs t (0, 0) h).trans (hc i hi)
theorem Own.frozen (h : Own w g t m f) (i : Nat) : w.frozen? ⟨g, i, none⟩ = false := by
 obtain ⟨cs, h, _⟩ := h
 simp [World.frozen?, h]
theorem Own.of_block (h : Own w g t m f) (hb : w'.heap[g]? = w.heap[g]?) : Own w' g t m f := by
 obtain ⟨cs, h, r⟩ := h
 exact ⟨cs, hb.trans h, r⟩
theorem Own.below {B : Nat} (h : Own w g t m f) (hb : Below B w w') (hg : g < B) : Own w' g t m f := h.of_block (hb.block g hg)
theorem Own.nx (h : Own w g t m f) (hb : Nx w w') : Own w' g t m f := h.of_block (hb.block g h.lt)
theorem Own.row (h : Own w g t m f) {B : Nat} (hB : g < B) : Row w B (some ⟨g, 0, none⟩) m f := fun _ =>
 ⟨g, 0, rfl, hB, fun i hi => by rw [Nat.zero_add]; exact h.cell hi⟩
theorem Own.set (h : Own w g t m f) {k : Nat} (hk : k < m) (v : Value) : Own (w.setCell ⟨g, k, none⟩ v) g t m (fun i => if i = k then v else f i) := by
 obtain ⟨cs, h, hm, hc⟩ := h
 refine ⟨cs.setIfInBounds k v, ?_, by simpa using hm, fun i hi => ?_⟩
 · simp [World.setCell, Array.getElem?_modify, h]
 · rw [Array.getElem?_setIfInBounds]
   by_cases e : k = i
   · subst e; rw [if_pos rfl, if_pos (by omega)]; simp
   · rw [if_neg e, hc i hi]; show some (f i) = some (if i = k then v else f i); rw [if_neg (fun h : i = k => e h.symm)]
theorem Own.far (h : Own w g t m f) {p : Addr} (hp : g ≠ p.block) (v : Value) : Own (w.setCell p v) g t m f := h.of_block (Below.heap_setCell w p v g hp)
theorem Own.alloc (h : Own w g t m f) (o : Obj) : Own (w.alloc o) g t m f := h.of_block (Below.heap_alloc w o g h.lt)
theorem Own.drewN (h : Own w g t m f) (n : Nat) : Own (w.drewN n) g t m f := h
theorem Own.congr {f' : Nat → Value} (h : Own w g t m f) (hf : ∀ i, i < m → f i = f' i) : Own w g t m f' := by
 obtain ⟨cs, h, hm, hc⟩ := h
 exact ⟨cs, h, hm, fun i hi => by rw [← hf i hi]; exact hc i hi⟩
end
def Fill (w : World) (g : Nat) (t : TypeId) (m k : Nat) (F : Nat → Value) : Prop := ∃ f, Own w g t m f ∧ ∀ i, i < k → f i = F i
section
variable {w w' : World} {g : Nat} {t : TypeId} {m k : Nat} {f F : Nat → Value}
theorem Fill.start (h : Own w g t m f) : Fill w g t m 0 F := ⟨f, h, fun i hi => absurd hi (by omega)⟩
theorem Fill.lt (h : Fill w g t m k F) : g < w.heap.size := by
 obtain ⟨f, h, _⟩ := h; exact h.lt
theorem Fill.some_ (h : Fill w g t m k F) {i : Nat} (hi : i < m) : ∃ v, w.cell? ⟨g, i, none⟩ = some v := by
 obtain ⟨f, h, _⟩ := h; exact ⟨_, h.cell hi⟩
theorem Fill.frozen (h : Fill w g t m k F) (i : Nat) : w.frozen? ⟨g, i, none⟩ = false := by
 obtain ⟨f, h, _⟩ := h; exact h.frozen i
theorem Fill.step (h : Fill w g t m k F) (hk : k < m) {v : Value} (hv : v = F k) : Fill (w.setCell ⟨g, k, none⟩ v) g t m (k + 1) F := by
 obtain ⟨f, h, hf⟩ := h
 refine ⟨_, h.set hk v, fun i hi => ?_⟩
 by_cases e : i = k
 · subst e; simp [hv]
 · simp only [if_neg e]; exact hf i (by omega)
theorem Fill.done (h : Fill w g t m m F) : Own w g t m F := by
 obtain ⟨f, h, hf⟩ := h; exact h.congr hf
theorem Fill.nx (h : Fill w g t m k F) (hb : Nx w w') : Fill w' g t m k F := by
 obtain ⟨f, h, hf⟩ := h; exact ⟨f, h.nx hb, hf⟩
theorem Nx.setCell {a w : World} (h : Nx a w) {p : Addr} (hp : a.heap.size ≤ p.block) (v : Value) : Nx a (w.setCell p v) := Below.setCell h hp v
end
theorem Own.made (w : World) (z : Array Value) (n : Nat) (t : TypeId) : Own (w.alloc (.cells (madeCells z n) t)) w.heap.size t n (fun i => z[i % z.size]!) :=
 ⟨_, heap_alloc_new w _, by rw [size_madeCells]; exact Nat.le_refl _, fun i hi => by simp [madeCells, hi]⟩
theorem run_make_rowN {P : Program} (t e : TypeId) (i : TypeInfo) (z : Value) (ht : P.underlying t = some (.slice e)) (hi : P.info? e = some i) (hz : i.zero = some z)
 (kl kc : IntKind) (n c : Nat) (hnc : n ≤ c) (hbytes : i.bytes * c ≤ 281474976710656) (h63 : c ≤ 9223372036854775807) (w : World) :
 (Instr.makeSlice t (.int kl (n : Int)) (.int kc (c : Int))).run P w = .ok (.slice (some ⟨w.heap.size, 0, none⟩) n c) (w.alloc (.cells (madeCells z.cells (c * i.size)) e)) := by
 have hb : (i.bytes : Int) * (c : Int) ≤ 281474976710656 := by
  have h : ((i.bytes * c : Nat) : Int) ≤ 281474976710656 := by omega
  rwa [Int.natCast_mul] at h
 have hr := run_make (P := P) w t e i z ht hi hz kl kc n c (by omega) (by omega) hb (by omega)
 simp only [Int.toNat_natCast] at hr
 exact hr
structure Rg (lo hi : Nat) (w w' : World) : Prop where
 os : w'.os = w.os
 tape : w'.tape = w.tape
 output : w'.output = w.output
 size : w.heap.size ≤ w'.heap.size
 block : ∀ k, k < w.heap.size → (k < lo ∨ hi ≤ k) → w'.heap[k]? = w.heap[k]?
theorem Rg.of_nx {lo hi : Nat} {w w' : World} (h : Nx w w') : Rg lo hi w w' := ⟨h.os, h.tape, h.output, h.size, fun k hk _ => h.block k hk⟩
theorem Rg.trans {lo hi : Nat} {a b c : World} (h : Rg lo hi a b) (k : Rg lo hi b c) : Rg lo hi a c :=
 ⟨k.os.trans h.os, k.tape.trans h.tape, k.output.trans h.output, ntr h.size k.size, fun i hi' hr => (k.block i (Nat.lt_of_lt_of_le hi' h.size) hr).trans (h.block i hi' hr)⟩
theorem Rg.setCell {lo hi : Nat} {a w : World} (h : Rg lo hi a w) {p : Addr} (h1 : lo ≤ p.block) (h2 : p.block < hi) (v : Value) : Rg lo hi a (w.setCell p v) :=
 h.trans ⟨rfl, rfl, rfl, by simp [World.setCell], fun k _ hr => Below.heap_setCell _ _ _ _ (by omega)⟩
theorem Rg.below {lo hi : Nat} {w w' : World} (h : Rg lo hi w w') (hB : lo ≤ w.heap.size) : Below lo w w' := ⟨h.os, h.tape, h.output, h.size, fun k hk => h.block k (by omega) (.inl hk)⟩
theorem Rg.nx_of {lo hi : Nat} {a w w' : World} (h : Nx a w) (k : Rg lo hi w w') (hl : a.heap.size ≤ lo) : Nx a w' :=
 ⟨k.os.trans h.os, k.tape.trans h.tape, k.output.trans h.output, ntr h.size k.size, fun i hi' => (k.block i (Nat.lt_of_lt_of_le hi' h.size) (.inl (by omega))).trans (h.block i hi')⟩
theorem Own.rg {lo hi : Nat} {w w' : World} {g : Nat} {t : TypeId} {m : Nat} {f : Nat → Value} (h : Own w g t m f) (hb : Rg lo hi w w') (hg : g < lo ∨ hi ≤ g) : Own w' g t m f := h.of_block (hb.block g h.lt hg)
def TyK (t : TypeId) (w w' : World) : Prop := ∀ g t' m f, t' ≠ t → Own w g t' m f → Own w' g t' m f
theorem TyK.refl (t : TypeId) (w : World) : TyK t w w := fun _ _ _ _ _ h => h
theorem TyK.nx {t : TypeId} {a w w' : World} (h : TyK t a w) (hb : Nx w w') : TyK t a w' := fun g t' m f hne ho => (h g t' m f hne ho).nx hb
theorem Own.ne_type {w : World} {g g' : Nat} {t t' : TypeId} {m m' : Nat} {f f' : Nat → Value} (h : Own w g t m f) (h' : Own w g' t' m' f') (hne : t' ≠ t) : g' ≠ g := by
 rintro rfl
 obtain ⟨cs, h, _⟩ := h
 obtain ⟨cs', h', _⟩ := h'
 rw [h] at h'
 injection h' with h'
 injection h' with _ ht
 exact hne ht.symm
theorem TyK.set {t : TypeId} {a w : World} (h : TyK t a w) {g i m : Nat} {f : Nat → Value} (ho : Own w g t m f) (v : Value) : TyK t a (w.setCell ⟨g, i, none⟩ v) := fun g' t' m' f' hne h' =>
 (h g' t' m' f' hne h').far (Own.ne_type ho (h g' t' m' f' hne h') hne) v
def Box (w : World) (g : Nat) (t : TypeId) (cs : Array Value) : Prop := w.heap[g]? = some (.cells cs t (0, 0))
section
variable {w w' : World} {g : Nat} {t : TypeId} {cs : Array Value} {v0 v1 : Value}
theorem Box.lt (h : Box w g t cs) : g < w.heap.size := by
 rcases Nat.lt_or_ge g w.heap.size with hlt | hge
 · exact hlt
 · unfold Box at h; rw [Array.getElem?_eq_none hge] at h; cases h
theorem Box.new (w : World) (t : TypeId) (cs : Array Value) : Box (w.alloc (.cells cs t)) w.heap.size t cs := heap_alloc_new w _
theorem Box.alloc (h : Box w g t cs) (o : Obj) : Box (w.alloc o) g t cs := (Below.heap_alloc w o g h.lt).trans h
theorem Box.nx (h : Box w g t cs) (hb : Nx w w') : Box w' g t cs := (hb.block g h.lt).trans h
theorem Box.rg {lo hi : Nat} (h : Box w g t cs) (hb : Rg lo hi w w') (hg : g < lo ∨ hi ≤ g) : Box w' g t cs := (hb.block g h.lt hg).trans h
theorem Box.grown {row : Option Nat} (h : Box w g t cs) (hb : w.grownBy w' row) (hg : some g ≠ row) : Box w' g t cs := (hb.block g h.lt hg).trans h
theorem Box.far (h : Box w g t cs) {p : Addr} (hp : g ≠ p.block) (u : Value) : Box (w.setCell p u) g t cs := (Below.heap_setCell w p u g hp).trans h
theorem Box.cell (h : Box w g t cs) (i : Nat) : w.cell? ⟨g, i, none⟩ = cs[i]? := cell_of_row w g i cs t (0, 0) h
theorem Box.frozen (h : Box w g t cs) (i : Nat) : w.frozen? ⟨g, i, none⟩ = false := by
 unfold Box at h
 simp [World.frozen?, h]
theorem Box.c0 (h : Box w g t #[v0, v1]) : w.cell? ⟨g, 0, none⟩ = some v0 := h.cell 0
theorem Box.c1 (h : Box w g t #[v0, v1]) : w.cell? ⟨g, 1, none⟩ = some v1 := h.cell 1
theorem Box.set0 (h : Box w g t #[v0, v1]) (u : Value) : Box (w.setCell ⟨g, 0, none⟩ u) g t #[u, v1] := by
 unfold Box at h ⊢
 simp [World.setCell, Array.getElem?_modify, h]
theorem Box.set1 (h : Box w g t #[v0, v1]) (u : Value) : Box (w.setCell ⟨g, 1, none⟩ u) g t #[v0, u] := by
 unfold Box at h ⊢
 simp [World.setCell, Array.getElem?_modify, h]
end
def Sl (w : World) (lo : Nat) (A : Option Addr) (t : TypeId) (m : Nat) (f : Nat → Value) : Prop := 0 < m → ∃ g, A = some ⟨g, 0, none⟩ ∧ lo ≤ g ∧ Own w g t m f
def Sr (w : World) (lo hi : Nat) (A : Option Addr) (t : TypeId) (m : Nat) (f : Nat → Value) : Prop := 0 < m → ∃ g, A = some ⟨g, 0, none⟩ ∧ lo ≤ g ∧ g < hi ∧ Own w g t m f
section
variable {w w' : World} {lo lo' hi : Nat} {A : Option Addr} {t : TypeId} {m : Nat} {f : Nat → Value}
theorem Sl.none_ (w : World) (lo : Nat) (A : Option Addr) (t : TypeId) (f : Nat → Value) : Sl w lo A t 0 f := fun h => absurd h (by omega)
theorem Sl.nx (h : Sl w lo A t m f) (hb : Nx w w') : Sl w' lo A t m f := fun hm => by
 obtain ⟨g, e, hl, ho⟩ := h hm; exact ⟨g, e, hl, ho.nx hb⟩
theorem Sl.low (h : Sl w lo A t m f) (hl : lo' ≤ lo) : Sl w lo' A t m f := fun hm => by
 obtain ⟨g, e, hl2, ho⟩ := h hm; exact ⟨g, e, ntr hl hl2, ho⟩
theorem Sl.row (h : Sl w lo A t m f) : Row w w.heap.size A m f := fun hm => by
 obtain ⟨g, e, hl, ho⟩ := h hm; subst e; exact ho.row ho.lt hm
theorem Sl.sr (h : Sl w lo A t m f) : Sr w lo w.heap.size A t m f := fun hm => by
 obtain ⟨g, e, hl, ho⟩ := h hm; exact ⟨g, e, hl, ho.lt, ho⟩
theorem Sl.own {g : Nat} (h : Own w g t m f) (hg : lo ≤ g) : Sl w lo (some ⟨g, 0, none⟩) t m f := fun _ => ⟨g, rfl, hg, h⟩
theorem Sl.far (h : Sl w lo A t m f) {p : Addr} (hp : p.block < lo) (v : Value) : Sl (w.setCell p v) lo A t m f := fun hm => by
 obtain ⟨g, e, hl, ho⟩ := h hm; exact ⟨g, e, hl, ho.far (by omega) v⟩
theorem Sl.far_ty (h : Sl w lo A t m f) {p : Addr} {t' : TypeId} {cs : Array Value} (hp : Box w p.block t' cs) (ht : t' ≠ t) (v : Value) : Sl (w.setCell p v) lo A t m f := fun hm => by
 obtain ⟨g, e, hl, ho⟩ := h hm
 refine ⟨g, e, hl, ho.far (fun he => ?_) v⟩
 obtain ⟨cs', hc, _⟩ := ho
 unfold Box at hp
 rw [← he, hc] at hp
 injection hp with hp
 injection hp with _ hp
 exact ht hp.symm
theorem Sr.sl (h : Sr w lo hi A t m f) : Sl w lo A t m f := fun hm => by
 obtain ⟨g, e, hl, _, ho⟩ := h hm; exact ⟨g, e, hl, ho⟩
theorem Sr.nx (h : Sr w lo hi A t m f) (hb : Nx w w') : Sr w' lo hi A t m f := fun hm => by
 obtain ⟨g, e, hl, hh, ho⟩ := h hm; exact ⟨g, e, hl, hh, ho.nx hb⟩
theorem Sr.rg {a b : Nat} (h : Sr w lo hi A t m f) (hb : Rg a b w w') (hd : hi ≤ a ∨ b ≤ lo) : Sr w' lo hi A t m f := fun hm => by
 obtain ⟨g, e, hl, hh, ho⟩ := h hm; exact ⟨g, e, hl, hh, ho.rg hb (by omega)⟩
theorem Sr.ty {t' : TypeId} (h : Sr w lo hi A t m f) (hb : TyK t' w w') (hne : t ≠ t') : Sr w' lo hi A t m f := fun hm => by
 obtain ⟨g, e, hl, hh, ho⟩ := h hm; exact ⟨g, e, hl, hh, hb _ _ _ _ hne ho⟩
end
theorem Box.set {w : World} {g : Nat} {t : TypeId} {cs : Array Value} (h : Box w g t cs) (i : Nat) (u : Value) : Box (w.setCell ⟨g, i, none⟩ u) g t (cs.setIfInBounds i u) := by
 unfold Box at h ⊢
 simp [World.setCell, Array.getElem?_modify, h]
theorem Box.d3 {w : World} {g : Nat} {t : TypeId} {v0 v1 v2 : Value} (h : Box w g t #[v0, v1, v2]) : w.cell? ⟨g, 0, none⟩ = some v0 ∧ w.cell? ⟨g, 1, none⟩ = some v1 ∧ w.cell? ⟨g, 2, none⟩ = some v2 :=
 ⟨h.cell 0, h.cell 1, h.cell 2⟩
theorem Box.d4 {w : World} {g : Nat} {t : TypeId} {v0 v1 v2 v3 : Value} (h : Box w g t #[v0, v1, v2, v3]) : w.cell? ⟨g, 0, none⟩ = some v0 ∧ w.cell? ⟨g, 1, none⟩ = some v1 ∧ w.cell? ⟨g, 2, none⟩ = some v2 ∧ w.cell? ⟨g, 3, none⟩ = some v3 :=
 ⟨h.cell 0, h.cell 1, h.cell 2, h.cell 3⟩
def inB (lo hi a : Int) : Bool := decide (lo ≤ a) && decide (a ≤ hi)
theorem inB_yes {lo hi a : Int} (h : inB lo hi a = true) : lo ≤ a ∧ a ≤ hi := by
 unfold inB at h; simpa using h
theorem inB_mk {lo hi a : Int} (h1 : lo ≤ a) (h2 : a ≤ hi) : inB lo hi a = true := by
 unfold inB; simp [h1, h2]
theorem inB_no {lo hi a : Int} (h : a < lo ∨ hi < a) : inB lo hi a = false := by
 unfold inB
 rcases h with h | h
 · rw [decide_eq_false (by omega)]; rfl
 · rw [decide_eq_false (p := a ≤ hi) (by omega)]; simp
def frameB (p b v t : Int) : Bool := inB 1 999999 p && inB 0 7 b && inB 0 999999 v && inB 0 999999 t
theorem l01In_c (a lo hi : Int) (w : World) : Calls Tryz.prog 106 #[ii a, ii lo, ii hi] w fun e w' => e = .returned (.bool (inB lo hi a)) ∧ w = w' := by
 go_enter Tryz.func106, Tryz.ntmps106
 go_wp2
 all_goals (go_ret; refine ⟨ret_bool ?_, rfl⟩; unfold inB; rw [Bool.eq_iff_iff]; simp; try omega)
theorem isWithin_c (a lo hi : Int) (w : World) : Calls Tryz.prog 99 #[ii a, ii lo, ii hi] w fun e w' => e = .returned (.bool (inB lo hi a)) ∧ w = w' := by
 go_enter Tryz.func99, Tryz.ntmps99
 go_wp2
 all_goals (go_ret; refine ⟨ret_bool ?_, rfl⟩; unfold inB; rw [Bool.eq_iff_iff]; simp; try omega)
theorem isPosition_c (a : Int) (w : World) : Calls Tryz.prog 100 #[ii a] w fun e w' => e = .returned (.bool (inB 0 999999 a)) ∧ w = w' := by
 go_enter Tryz.func100, Tryz.ntmps100
 go_wp2_with (go_at_call 99; refine (isWithin_c _ _ _ _).mono ?_; rintro e w' ⟨rfl, rfl⟩)
 go_ret
 exact ⟨rfl, rfl⟩
abbrev Chg := Int × Int × Int
def chZ : Chg := (0, 0, 0)
def chAt (cs : List Chg) (i : Nat) : Value := ii (if i % 3 = 0 then (cs.getD (i / 3) chZ).1 else if i % 3 = 1 then (cs.getD (i / 3) chZ).2.1 else (cs.getD (i / 3) chZ).2.2)
theorem chAt0 (cs : List Chg) (k : Nat) : chAt cs (k * 3) = ii (cs.getD k chZ).1 := by
 unfold chAt; rw [if_pos (by omega), show k * 3 / 3 = k by omega]
theorem chAt1 (cs : List Chg) (k : Nat) : chAt cs (k * 3 + 1) = ii (cs.getD k chZ).2.1 := by
 unfold chAt; rw [if_neg (by omega), if_pos (by omega), show (k * 3 + 1) / 3 = k by omega]
theorem chAt2 (cs : List Chg) (k : Nat) : chAt cs (k * 3 + 2) = ii (cs.getD k chZ).2.2 := by
 unfold chAt; rw [if_neg (by omega), if_neg (by omega), show (k * 3 + 2) / 3 = k by omega]
def Chs (w : World) (B : Nat) (A : Option Addr) (cs : List Chg) : Prop := Row w B A (cs.length * 3) (chAt cs)
theorem Chs.below {w w' : World} {B B' : Nat} {A : Option Addr} {cs : List Chg} (h : Chs w B A cs) (hb : Below B' w w') (hB : B ≤ B') : Chs w' B A cs := Row.below h hb hB
theorem Chs.at_ {w : World} {B k : Nat} {A : Option Addr} {cs : List Chg} (h : Chs w B A cs) (hk : k < cs.length) :
 ∃ b off, A = some ⟨b, off, none⟩ ∧ b < B ∧ w.cell? ⟨b, off + k * 3, none⟩ = some (ii (cs.getD k chZ).1) ∧ w.cell? ⟨b, off + k * 3 + 1, none⟩ = some (ii (cs.getD k chZ).2.1) ∧ w.cell? ⟨b, off + k * 3 + 2, none⟩ = some (ii (cs.getD k chZ).2.2) := by
 obtain ⟨b, off, e, hb, hc⟩ := h (by omega)
 have h0 := hc (k * 3) (by omega)
 have h1 := hc (k * 3 + 1) (by omega)
 have h2 := hc (k * 3 + 2) (by omega)
 rw [chAt0] at h0
 rw [chAt1] at h1
 rw [chAt2] at h2
 exact ⟨b, off, e, hb, h0, h1, h2⟩
def chB (c : Chg) : Bool := inB 0 7 c.1 && inB 0 999999 c.2.1 && inB 0 999999 c.2.2
def okCh (cs : List Chg) (k : Nat) : Bool := chB (cs.getD k chZ) && (k == 0 || decide ((cs.getD (k - 1) chZ).1 < (cs.getD k chZ).1))
def chsB (cs : List Chg) : Bool := (List.range cs.length).all (okCh cs)
def segB (f t m : Int) (cs : List Chg) : Bool := inB 0 999999 f && inB 0 999999 t && decide (f < t) && inB 0 999999 m && chsB cs
def OkTo (cs : List Chg) (k : Nat) : Prop := ∀ j, j < k → okCh cs j = true
theorem OkTo.zero (cs : List Chg) : OkTo cs 0 := fun j h => absurd h (by omega)
theorem OkTo.succ {cs : List Chg} {k : Nat} (h : OkTo cs k) (hk : okCh cs k = true) : OkTo cs (k + 1) := fun j hj => by
 rcases Nat.lt_or_ge j k with hlt | hge
 · exact h j hlt
 · obtain rfl : j = k := by omega
   exact hk
theorem OkTo.all {cs : List Chg} (h : OkTo cs cs.length) : chsB cs = true := List.all_eq_true.2 fun j hj => h j (by simpa using hj)
theorem chsB_to {cs : List Chg} (h : chsB cs = true) : OkTo cs cs.length := fun j hj => List.all_eq_true.1 h j (by simpa using hj)
theorem OkTo.rise {cs : List Chg} {k : Nat} (h : OkTo cs k) : ∀ j, j < k → (j : Int) ≤ (cs.getD j chZ).1 ∧ (cs.getD j chZ).1 ≤ 7 := by
 intro j
 induction j with
 | zero =>
   intro hj
   have h0 := h 0 hj
   unfold okCh chB at h0
   simp only [Bool.and_eq_true] at h0
   exact inB_yes h0.1.1.1
 | succ j ih =>
   intro hj
   have h0 := h (j + 1) hj
   obtain ⟨h1, _⟩ := ih (by omega)
   unfold okCh chB at h0
   simp only [Bool.and_eq_true, Bool.or_eq_true, decide_eq_true_eq, Nat.add_sub_cancel] at h0
   obtain ⟨_, h3⟩ := inB_yes h0.1.1.1
   rcases h0.2 with h2 | h2
   · simp at h2
   · exact ⟨by omega, h3⟩
theorem segB_mk {f t m : Int} {cs : List Chg} (h1 : 0 ≤ f) (h2 : f < t) (h3 : t ≤ 999999) (h4 : inB 0 999999 m = true) (h5 : chsB cs = true) : segB f t m cs = true := by
 unfold segB
 rw [inB_mk h1 (by omega), inB_mk (by omega) h3, h4, h5, decide_eq_true h2]; rfl
end Go.Proofs.YtieoiailjjnnoaaGreatDoor
namespace Go.Proofs.YtieoiailjjnnoaaGreatDoor
set_option linter.unusedVariables false
set_option maxRecDepth 100000
set_option maxHeartbeats 16000000
open Go.RowKit Go.ChangeMaps Go.MapKept Go.WideShapes
def vC (c : Chg) : Value := .agg #[.int  .i64 c.1, .int  .i64 c.2.1, .int  .i64 c.2.2]
structure Ent (es : List MapEntry) (M : Int → Option Chg) : Prop where
 has : ∀ e ∈ es, ∃ k c, e.key = .int  .i64 k ∧ (Lit.int  .i64 k).wf = true ∧ e.val = vC c ∧ M k = some c
 all : ∀ k c, M k = some c → ∃ e ∈ es, e.key = .int  .i64 k
 one : ∀ (i j : Nat) (x y : MapEntry), es[i]? = some x → es[j]? = some y → x.key = y.key → i = j
def MapC (w : World) (b : Nat) (M : Int → Option Chg) : Prop := ∃ es clock, w.heap[b]? = some (.map es clock) ∧ Ent es.toList M
section
variable {w w' : World} {b : Nat} {M : Int → Option Chg}
theorem MapC.lt (h : MapC w b M) : b < w.heap.size := by
 obtain ⟨es, clock, hb, _⟩ := h
 exact (Array.getElem?_eq_some_iff.1 hb).1
theorem MapC.nx (h : MapC w b M) (hb : Nx w w') : MapC w' b M := by
 have hlt := h.lt
 obtain ⟨es, clock, h1, h2⟩ := h
 exact ⟨es, clock, (hb.block b hlt).trans h1, h2⟩
theorem MapC.rg {lo hi : Nat} (h : MapC w b M) (hb : Rg lo hi w w') (hg : b < lo ∨ hi ≤ b) : MapC w' b M := by
 have hlt := h.lt
 obtain ⟨es, clock, h1, h2⟩ := h
 exact ⟨es, clock, (hb.block b hlt hg).trans h1, h2⟩
theorem MapC.alloc (h : MapC w b M) (o : Obj) : MapC (w.alloc o) b M := h.nx ((Nx.refl w).alloc o)
theorem MapC.far (h : MapC w b M) {p : Addr} (hp : b ≠ p.block) (v : Value) : MapC (w.setCell p v) b M := by
 obtain ⟨es, clock, h1, h2⟩ := h
 exact ⟨es, clock, (Below.heap_setCell w p v b hp).trans h1, h2⟩
theorem MapC.made (w : World) : MapC (w.alloc (.map #[] 0)) w.heap.size (fun _ => none) :=
 ⟨#[], 0, (MapKept.heap_alloc w _).1, ⟨by simp, by simp, by simp⟩⟩
end
theorem keyI : Maps.Keyed Tryz.prog 3 := Maps.int_keyed Tryz.underlying3
theorem keyI_mk {k : Int} (hw : (Lit.int  .i64 k).wf = true) : keyOf Tryz.prog 3 (.int  .i64 k) = some (.int  .i64 k) := Maps.keyOf_int_mk Tryz.underlying3 hw
theorem Ent.keys {es : List MapEntry} {M : Int → Option Chg} (h : Ent es M) : ∀ e ∈ es, ∃ l, keyOf Tryz.prog 3 e.key = some l := fun e he => by
 obtain ⟨k, c, hk, hw, _⟩ := h.has e he
 exact ⟨_, by rw [hk]; exact keyI_mk hw⟩
theorem MapC.put {w : World} {b : Nat} {M : Int → Option Chg} (h : MapC w b M) {k : Int} (hw : (Lit.int  .i64 k).wf = true) (c : Chg) :
 ∃ w', (Instr.mapUpdate 232 (.map (some b)) (.int  .i64 k) (vC c)).run Tryz.prog w = .ok () w' ∧ MapC w' b (fun x => if x = k then some c else M x) ∧ Rg b (b + 1) w w' := by
 obtain ⟨es, clock, hb, he⟩ := h
 have hrg : ∀ es' clock', Rg b (b + 1) w (setBlock w b (.map es' clock')) := fun es' clock' => ⟨rfl, rfl, rfl, by simp [setBlock], fun i _ hi => heap_setBlock_other hb _ (by omega)⟩
 rcases keyI.find w (keyI_mk hw) es.toList he.keys with ⟨h1, h2⟩ | ⟨j, e0, h1, h2, h3⟩
 · refine ⟨setBlock w b (.map (es.push ⟨.int  .i64 k, vC c, clock⟩) (clock + 1)), ?_, ⟨_, _, heap_setBlock_same hb _, ?_⟩, hrg _ _⟩
   · simp [Instr.mapUpdate, run_underlying Tryz.underlying232, MapKept.run_getObj_map hb, keyI.check w false (keyI_mk hw), h1, MapKept.run_setObj_map _ hb, Result.andThen, setBlock]
   · rw [Array.toList_push]
     refine ⟨fun e hm => ?_, fun x d hx => ?_, fun i j x y hx hy hxy => ?_⟩
     · rcases List.mem_append.1 hm with hm | hm
       · obtain ⟨k', c', hk, hw', hv, hM⟩ := he.has e hm
         refine ⟨k', c', hk, hw', hv, ?_⟩
         have : k' ≠ k := fun e1 => h2 e hm (by rw [hk, e1])
         simp [this, hM]
       · simp only [List.mem_singleton] at hm
         subst hm
         exact ⟨k, c, rfl, hw, rfl, by simp⟩
     · by_cases hxk : x = k
       · exact ⟨⟨.int  .i64 k, vC c, clock⟩, by simp, by rw [hxk]⟩
       · simp only [if_neg hxk] at hx
         obtain ⟨e, hm, hk⟩ := he.all x d hx
         exact ⟨e, by simp [hm], hk⟩
     · have hlen : ∀ (i : Nat) (x : MapEntry), (es.toList ++ [⟨.int  .i64 k, vC c, clock⟩])[i]? = some x → (i < es.toList.length ∧ es.toList[i]? = some x) ∨ (i = es.toList.length ∧ x.key = .int  .i64 k) := by
        intro i x hx
        rcases Nat.lt_or_ge i es.toList.length with hl | hl
        · rw [List.getElem?_append_left hl] at hx
          exact .inl ⟨hl, hx⟩
        · rw [List.getElem?_append_right hl] at hx
          have hi : i - es.toList.length = 0 := by
           have := (List.getElem?_eq_some_iff.1 hx).1
           simpa using this
          rw [hi] at hx
          simp only [List.getElem?_cons_zero, Option.some.injEq] at hx
          exact .inr ⟨by omega, by rw [← hx]⟩
       rcases hlen i x hx with ⟨hi, hx⟩ | ⟨hi, hx⟩ <;> rcases hlen j y hy with ⟨hj, hy⟩ | ⟨hj, hy⟩
       · exact he.one i j x y hx hy hxy
       · exact absurd (hxy.trans hy) (h2 x (List.mem_of_getElem? hx))
       · exact absurd (hxy.symm.trans hx) (h2 y (List.mem_of_getElem? hy))
       · omega
 · have hj : es[j]? = some e0 := by simpa using h2
   have hlist : (es.modify j (fun e' => { e' with key := .int  .i64 k, val := vC c })).toList = es.toList.set j { e0 with key := .int  .i64 k, val := vC c } := by rw [Array.toList_modify, modify_eq_set _ _ _ _ h2]
   have hjl : j < es.toList.length := (List.getElem?_eq_some_iff.1 h2).1
   have hget : ∀ (i : Nat) (x : MapEntry), (es.toList.set j { e0 with key := .int  .i64 k, val := vC c })[i]? = some x → (i = j ∧ x = { e0 with key := .int  .i64 k, val := vC c }) ∨ (i ≠ j ∧ es.toList[i]? = some x ∧ x.key ≠ .int  .i64 k) := by
    intro i x hx
    rw [List.getElem?_set] at hx
    by_cases hij : j = i
    · rw [if_pos hij, if_pos hjl] at hx
      exact .inl ⟨hij.symm, (Option.some.inj hx).symm⟩
    · rw [if_neg hij] at hx
      exact .inr ⟨fun e => hij e.symm, hx, fun e => hij (he.one j i e0 x h2 hx (by rw [h3, e]))⟩
   refine ⟨setBlock w b (.map (es.modify j (fun e' => { e' with key := .int  .i64 k, val := vC c })) clock), ?_, ⟨_, _, heap_setBlock_same hb _, ?_⟩, hrg _ _⟩
   · simp [Instr.mapUpdate, run_underlying Tryz.underlying232, MapKept.run_getObj_map hb, keyI.check w false (keyI_mk hw), h1, hj, h3, keyI.stays w (keyI_mk hw), MapKept.run_setObj_map _ hb, Result.andThen, setBlock]
   · rw [hlist]
     refine ⟨fun e hm => ?_, fun x d hx => ?_, fun i i' x y hx hy hxy => ?_⟩
     · obtain ⟨i, hi⟩ := List.mem_iff_getElem?.1 hm
       rcases hget i e hi with ⟨_, rfl⟩ | ⟨_, hi, hne⟩
       · exact ⟨k, c, rfl, hw, rfl, by simp⟩
       · obtain ⟨k', c', hk, hw', hv, hM⟩ := he.has e (List.mem_of_getElem? hi)
         refine ⟨k', c', hk, hw', hv, ?_⟩
         have : k' ≠ k := fun e1 => hne (by rw [hk, e1])
         simp [this, hM]
     · by_cases hxk : x = k
       · exact ⟨{ e0 with key := .int  .i64 k, val := vC c }, List.mem_iff_getElem?.2 ⟨j, by rw [List.getElem?_set, if_pos rfl, if_pos hjl]⟩, by rw [hxk]⟩
       · simp only [if_neg hxk] at hx
         obtain ⟨e, hm, hk⟩ := he.all x d hx
         obtain ⟨i, hi⟩ := List.mem_iff_getElem?.1 hm
         refine ⟨e, List.mem_iff_getElem?.2 ⟨i, ?_⟩, hk⟩
         have hij : j ≠ i := by
          rintro rfl
          rw [h2] at hi
          cases hi
          rw [h3] at hk
          injection hk with _ hk
          exact hxk hk.symm
         rw [List.getElem?_set, if_neg hij]
         exact hi
     · rcases hget i x hx with ⟨hi, hx⟩ | ⟨hi, hx, hnx⟩ <;> rcases hget i' y hy with ⟨hi', hy⟩ | ⟨hi', hy, hny⟩
       · omega
       · exact absurd (by rw [← hxy, hx]) hny
       · exact absurd (by rw [hxy, hy]) hnx
       · exact he.one i i' x y hx hy hxy
end Go.Proofs.YtieoiailjjnnoaaGreatDoor
namespace Go.Proofs.YtieoiailjjnnoaaGreatDoor
set_option linter.unusedVariables false
set_option maxRecDepth 100000
set_option maxHeartbeats 16000000
open Go.RowKit
def inAt (xs : List Int) (i : Nat) : Value := ii (xs.getD i 0)
def Ins (w : World) (B : Nat) (A : Option Addr) (xs : List Int) : Prop := Row w B A xs.length (inAt xs)
theorem Ins.below {w w' : World} {B B' : Nat} {A : Option Addr} {xs : List Int} (h : Ins w B A xs) (hb : Below B' w w') (hB : B ≤ B') : Ins w' B A xs := Row.below h hb hB
theorem Ins.more {w : World} {B B' : Nat} {A : Option Addr} {xs : List Int} (h : Ins w B A xs) (hB : B ≤ B') : Ins w B' A xs := Row.more h hB
theorem Ins.at_ {w : World} {B k : Nat} {A : Option Addr} {xs : List Int} (h : Ins w B A xs) (hk : k < xs.length) :
 ∃ b off, A = some ⟨b, off, none⟩ ∧ b < B ∧ w.cell? ⟨b, off + k, none⟩ = some (ii (xs.getD k 0)) := by
 obtain ⟨b, off, e, hb, hc⟩ := h (by omega)
 exact ⟨b, off, e, hb, hc k hk⟩
abbrev SlI (w : World) (lo : Nat) (A : Option Addr) (xs : List Int) : Prop := Sl w lo A 3 xs.length (inAt xs)
theorem info_int : (Tryz.prog.info? 3).map (fun i => (i.zero, i.size, i.bytes)) = some (some (ii 0), 1, 8) := by kernel_rfl
def contB (xs : List Int) : Bool := decide (xs.length = 8) && xs.all (inB 0 999999)
def InTo (xs : List Int) (k : Nat) : Prop := ∀ j, j < k → inB 0 999999 (xs.getD j 0) = true
theorem InTo.zero (xs : List Int) : InTo xs 0 := fun j h => absurd h (by omega)
theorem InTo.succ {xs : List Int} {k : Nat} (h : InTo xs k) (hk : inB 0 999999 (xs.getD k 0) = true) : InTo xs (k + 1) := fun j hj => by
 rcases Nat.lt_or_ge j k with hlt | hge
 · exact h j hlt
 · obtain rfl : j = k := by omega
   exact hk
theorem InTo.all {xs : List Int} (h : InTo xs xs.length) : xs.all (inB 0 999999) = true := List.all_eq_true.2 fun x hx => by
 obtain ⟨j, hj, rfl⟩ := List.mem_iff_getElem.1 hx
 have := h j hj
 rwa [gdE, List.getElem?_eq_getElem hj] at this
theorem contB_mk {xs : List Int} (h : xs.length = 8) (h2 : InTo xs xs.length) : contB xs = true := by unfold contB; rw [decide_eq_true h, h2.all]; rfl
theorem contB_yes {xs : List Int} (h : contB xs = true) : xs.length = 8 ∧ ∀ k, k < 8 → 0 ≤ xs.getD k 0 ∧ xs.getD k 0 ≤ 999999 := by
 unfold contB at h
 simp only [Bool.and_eq_true, decide_eq_true_eq, List.all_eq_true] at h
 refine ⟨h.1, fun k hk => inB_yes ?_⟩
 have hk' : k < xs.length := by omega
 rw [gdE, List.getElem?_eq_getElem hk']
 exact h.2 _ (List.getElem_mem _)
theorem addr_add' (b off i : Nat) : (Addr.mk b off none).add i = ⟨b, off + i, none⟩ := by
 unfold Addr.add
 by_cases h : i = 0
 · subst h; simp
 · simp [h]
def NewRow (w w' : World) (e : TypeId) (size : Nat) (A : Option Addr) (m : Nat) (f : Nat → Value) : Prop :=
 Nx w w' ∧ (0 < m → ∃ g, A = some ⟨g, 0, none⟩ ∧ w.heap.size ≤ g ∧ Own w' g e (m * size) f)
theorem cells_list (N : Nat) (f : Nat → Value) (j : Nat) (u : Value) (h : ((List.range N).map f)[j]? = some u) : j < N ∧ f j = u := by
 rw [List.getElem?_map] at h
 by_cases hj : j < N
 · rw [List.getElem?_range hj] at h
   exact ⟨hj, by simpa using h⟩
 · rw [List.getElem?_eq_none (by simpa using hj)] at h
   cases h
section
variable {P : Program}
theorem run_append_new (w : World) (t ty e : TypeId) (i : TypeInfo) (z : Value) (size bytes : Nat) (ht : P.underlying t = some (.slice e)) (hi : P.info? e = some i) (hz : i.zero = some z) (hsize : i.size = size) (hby : i.bytes = bytes)
 (hsz : 0 < size) (hb64 : bytes ≤ 64) (g0 : Nat) (A : Option Addr) (m c B : Nat) (f : Nat → Value) (hrow : Row w B A (m * size) f) (hm : m ≤ 1048576) :
 ∃ A' c' w', (Builtin.append_ #[t, t] ty #[.slice (some ⟨g0, 0, none⟩) 0 0, .slice A m c]).run P w = .ok (.slice A' m c') w' ∧ NewRow w w' e size A' m f := by
 subst hsize hby
 rcases Nat.eq_zero_or_pos m with h0 | hp
 · subst h0
   refine ⟨some ⟨g0, 0, none⟩, 0, w, ?_, Nx.refl _, fun h => absurd h (by omega)⟩
   rcases A with _ | a
   · simp [Builtin.append_, run_underlying ht, sizeOf, typeInfo, hi, Builtin.lenOf, Builtin.firstCells, storeCells]
   · simp [Builtin.append_, run_underlying ht, sizeOf, typeInfo, hi, Builtin.lenOf, Builtin.firstCells, storeCells, loadCells, loadCellsFrom]
 · have hpos : 0 < m * i.size := Nat.mul_pos hp hsz
   obtain ⟨b, off, rfl, hb, hc⟩ := hrow hpos
   have hgrow := run_append_grow (P := P) w t ty e i z ht hi hz ⟨g0, 0, none⟩ 0 0 [] (by simp) (fun j v h => by simp at h) ⟨b, off, none⟩ m c ((List.range (m * i.size)).map f) (by simp)
    (fun j u h => by
     obtain ⟨hj, rfl⟩ := cells_list _ _ _ _ h
     rw [addr_add']; exact hc j hj) (by omega) (by omega) (growslice_fits (by omega) (by
      have h1 : (0 + m) * i.bytes ≤ 1048576 * 64 := Nat.mul_le_mul (by omega) hb64
      omega))
   rw [Nat.zero_add] at hgrow
   refine ⟨_, _, _, hgrow, ?_, fun _ => ⟨_, rfl, Nat.le_refl _, ?_⟩⟩
   · exact ((Nx.refl w).drew).alloc _
   · refine ⟨_, heap_alloc_new w.drew _, ?_, fun k hk => ?_⟩
     · simp only [Array.size_append, List.size_toArray, List.length_map, List.length_range, List.length_nil]; omega
     · rw [Array.getElem?_append_left (by simp only [Array.size_append, List.size_toArray, List.length_map, List.length_range, List.length_nil]; omega)]
       simp [List.getElem?_range hk]
theorem wp_append_new {o : Oper} {a : Act} {w : World} {K : Act → World → Prop} {Q : Exit → Act → World → Prop} (s x : Operand) (t : TypeId) (ho : o.op = .call { callee := .builtin .append, args := #[s, x], argTypes := #[t, t] })
 (e : TypeId) (i : TypeInfo) (z : Value) (size bytes : Nat) (ht : P.underlying t = some (.slice e)) (hi : P.info? e = some i) (hz : i.zero = some z) (hsize : i.size = size) (hby : i.bytes = bytes)
 (hsz : 0 < size) (hb64 : bytes ≤ 64) (g0 : Nat) (A : Option Addr) (m c B : Nat) (f : Nat → Value) (hs : a.eval s = .slice (some ⟨g0, 0, none⟩) 0 0) (hx : a.eval x = .slice A m c) (hrow : Row w B A (m * size) f) (hm : m ≤ 1048576)
 (h : ∀ A' c' w', NewRow w w' e size A' m f → K (a.put o.dst (.slice A' m c')) w') : o.wp P a w K Q := by
 obtain ⟨A', c', w', hrun, hn⟩ := run_append_new (P := P) w t o.type e i z size bytes ht hi hz hsize hby hsz hb64 g0 A m c B f hrow hm
 unfold Oper.wp execOp
 simp only [ho, resolve, invoke, builtin, Sem.run_bind, Sem.run_pure, Result.andThen_ok, List.map_toArray, List.map_cons, List.map_nil, hs, hx, hrun]
 exact h A' c' w' hn
theorem wpList_append_new {ops : Array Oper} {rest : List Oper} {o : Oper} {a : Act} {w : World} {Q : Exit → Act → World → Prop} (hgd : o.guard = none) (s x : Operand) (t : TypeId) (ho : o.op = .call { callee := .builtin .append, args := #[s, x], argTypes := #[t, t] })
 (e : TypeId) (i : TypeInfo) (z : Value) (size bytes : Nat) (ht : P.underlying t = some (.slice e)) (hi : P.info? e = some i) (hz : i.zero = some z) (hsize : i.size = size) (hby : i.bytes = bytes)
 (hsz : 0 < size) (hb64 : bytes ≤ 64) (g0 : Nat) (A : Option Addr) (m c B : Nat) (f : Nat → Value) (hs : a.eval s = .slice (some ⟨g0, 0, none⟩) 0 0) (hx : a.eval x = .slice A m c) (hrow : Row w B A (m * size) f) (hm : m ≤ 1048576)
 (h : ∀ A' c' w', NewRow w w' e size A' m f → wpList P ops Q rest (a.put o.dst (.slice A' m c')) w') : wpList P ops Q (o :: rest) a w :=
 wpList_plain hgd fun _ hK => wp_append_new s x t ho e i z size bytes ht hi hz hsize hby hsz hb64 g0 A m c B f hs hx hrow hm fun A' c' w' hn => hK _ _ (h A' c' w' hn)
theorem step_append_new {ops : Array Oper} {o : Oper} {a : Act} {w : World} {K : Act → World → Prop} {Q : Exit → Act → World → Prop} {E : Prop} (hgd : o.guard = none) (s x : Operand) (t : TypeId) (ho : o.op = .call { callee := .builtin .append, args := #[s, x], argTypes := #[t, t] })
 (e : TypeId) (i : TypeInfo) (z : Value) (size bytes : Nat) (ht : P.underlying t = some (.slice e)) (hi : P.info? e = some i) (hz : i.zero = some z) (hsize : i.size = size) (hby : i.bytes = bytes)
 (hsz : 0 < size) (hb64 : bytes ≤ 64) (g0 : Nat) (A : Option Addr) (m c B : Nat) (f : Nat → Value) (hs : a.eval s = .slice (some ⟨g0, 0, none⟩) 0 0) (hx : a.eval x = .slice A m c) (hrow : Row w B A (m * size) f) (hm : m ≤ 1048576)
 (h : ∀ A' c' w', NewRow w w' e size A' m f → K (a.put o.dst (.slice A' m c')) w') :
 if Region.wanted o (yielded ops a.tmps) = true then Oper.wp P o a w K Q else E := by
 have hw : Region.wanted o (yielded ops a.tmps) = true := by simp [Region.wanted, hgd]
 rw [if_pos hw]
 exact wp_append_new s x t ho e i z size bytes ht hi hz hsize hby hsz hb64 g0 A m c B f hs hx hrow hm h
theorem run_copy_new (w : World) (dT sT ty elem : TypeId) (i : TypeInfo) (size : Nat) (hu : P.underlying dT = some (.slice elem)) (hi : P.info? elem = some i) (hsize : i.size = size)
 (g n cap : Nat) (A : Option Addr) (m c B M : Nat) (t : TypeId) (f f0 : Nat → Value) (ho : Own w g t M f0) (hM : n * size ≤ M) (hmn : m ≤ n) (hrow : Row w B A (m * size) f) (h1 : ∀ k, (f k).oneCell' = true) :
 ∃ w', (Builtin.copy_ #[dT, sT] ty #[.slice (some ⟨g, 0, none⟩) n cap, .slice A m c]).run P w = .ok (goInt m) w' ∧ Own w' g t M (fun k => if k < m * size then f k else f0 k) ∧
   (∀ a, Nx a w → a.heap.size ≤ g → Nx a w') ∧ w'.heap.size = w.heap.size ∧ (∀ k, k ≠ g → w'.heap[k]? = w.heap[k]?) := by
 subst hsize
 have hmin : Nat.min m n = m := Nat.min_eq_left hmn
 rcases Nat.eq_zero_or_pos (m * i.size) with h0 | hp
 · refine ⟨w, ?_, ho.congr (fun k _ => by rw [if_neg (by omega)]), fun _ h _ => h, rfl, fun _ _ => rfl⟩
   rcases A with _ | a
   · simp [Builtin.copy_, run_underlying hu, Builtin.lenOf, Builtin.firstCells, sizeOf, typeInfo, hi, hmin, storeCells]
   · simp [Builtin.copy_, run_underlying hu, Builtin.lenOf, Builtin.firstCells, sizeOf, typeInfo, hi, hmin, storeCells, h0, loadCells, loadCellsFrom]
 · obtain ⟨b, off, rfl, hb, hc⟩ := hrow hp
   obtain ⟨cur, hg, hcM, hcur⟩ := ho
   have hle : m * i.size ≤ n * i.size := Nat.mul_le_mul_right _ hmn
   have hl := run_loadCells_list (P := P) w ⟨b, off, none⟩ ((List.range (m * i.size)).map f) (fun j u h => by
    obtain ⟨hj, rfl⟩ := cells_list _ _ _ _ h
    rw [addr_add']; exact hc j hj)
   have hst := run_storeCells_at P g 0 t ((List.range (m * i.size)).map f) 0 cur w hg (by simp; omega) (fun v hv => by
    simp only [List.mem_map, List.mem_range] at hv
    obtain ⟨k, _, rfl⟩ := hv
    exact h1 k)
   simp only [List.length_map, List.length_range] at hl hst
   refine ⟨_, by
    simp only [Builtin.copy_]
    simp [run_underlying hu, Builtin.lenOf, Builtin.firstCells, sizeOf, typeInfo, hi, hmin, hl]
    rw [hst]; rfl, ?_, ?_, ?_, ?_⟩
   · refine ⟨_, setRow_heap w g cur _ t _ hg, ?_, fun k hk => ?_⟩
     · simp; omega
     · by_cases hkm : k < m * i.size
       · simp [hkm, List.getElem?_append]
       · have h2 : m * i.size + (k - m * i.size) = k := by omega
         simp [hkm, List.getElem?_append, h2, hcur k hk]
   · intro a hna hag
     exact ⟨hna.os, hna.tape, hna.output, by have := hna.size; simpa [World.setRow] using this, fun k hk => (setRow_other w g k _ (by omega)).trans (hna.block k hk)⟩
   · simp [World.setRow]
   · exact fun k hk => setRow_other w g k _ hk
end
theorem Box.own {w : World} {g : Nat} {t : TypeId} {cs : Array Value} (h : Box w g t cs) : Own w g t cs.size (fun i => cs[i]!) :=
 ⟨cs, h, Nat.le_refl _, fun i hi => by simp [hi]⟩
def cV (cs : List Chg) : List Value := cs.flatMap fun c => [ii c.1, ii c.2.1, ii c.2.2]
theorem cV_get : ∀ (cs : List Chg) (i : Nat), i < cs.length * 3 → (cV cs)[i]? = some (chAt cs i)
 | [], i, h => by simp at h
 | c :: cs, i, h => by
   show ([_, _, _] ++ cV cs)[i]? = _
   by_cases hi : i < 3
   · rw [List.getElem?_append_left (by simpa using hi)]
     match i, hi with
     | 0, _ => rfl
     | 1, _ => rfl
     | 2, _ => rfl
   · rw [List.getElem?_append_right (by simpa using hi)]
     show (cV cs)[i - 3]? = _
     rw [cV_get cs (i - 3) (by simp at h; omega)]
     have e1 : (i - 3) % 3 = i % 3 := by omega
     have e2 : i / 3 = (i - 3) / 3 + 1 := by omega
     unfold chAt
     rw [e1, e2, List.getD_cons_succ]
def RowC (w : World) (B : Nat) (v : Value) (cs : List Chg) : Prop := w.ownsRow B 192 3 v cs.length (cV cs)
theorem RowC.nil (w : World) (B : Nat) : RowC w B (nsl) [] := World.ownsRow_nil w B _ 3
theorem RowC.new (w : World) {B : Nat} (hB : B ≤ w.heap.size) : RowC (w.alloc (.cells #[] 192)) B (.slice (some ⟨w.heap.size, 0, none⟩) 0 0) [] :=
 ⟨rfl, .inr ⟨_, 0, #[], rfl, hB, heap_alloc_new w _, by simp, by unfold maxLen; omega, rfl, rfl⟩⟩
theorem RowC.sl {w : World} {B : Nat} {v : Value} {cs : List Chg} (h : RowC w B v cs) : ∃ A c, v = .slice A cs.length c ∧ Sl w B A 192 (cs.length * 3) (chAt cs) := by
 rcases h.2 with ⟨rfl, h0⟩ | ⟨g, cap, cur, rfl, hb, hg, hnc, _, hcs, htk⟩
 · exact ⟨none, 0, by rw [h0], fun hn => by omega⟩
 · refine ⟨_, cap, rfl, Sl.own ⟨cur, hg, by have := Nat.mul_le_mul_right 3 hnc; omega, fun i hi => ?_⟩ hb⟩
   have h1 : (cur.toList.take (cs.length * 3))[i]? = some (chAt cs i) := by rw [htk]; exact cV_get cs i hi
   rw [List.getElem?_take_of_lt hi] at h1
   simpa using h1
theorem RowC.nx {w w' : World} {B : Nat} {v : Value} {cs : List Chg} (h : RowC w B v cs) (hb : Nx w w') : RowC w' B v cs := by
 refine h.kept (row := none) ⟨hb.os, hb.tape, hb.output, hb.size, fun i hi _ => hb.block i hi⟩ ?_
 cases hv : v.ownBlock with
 | none => exact .inl rfl
 | some g => exact .inr (by simp)
theorem RowC.ne {w : World} {B g : Nat} {v : Value} {cs : List Chg} {t : TypeId} {xs : Array Value} (h : RowC w B v cs) (hb : Box w g t xs) (ht : t ≠ 192) : some g ≠ v.ownBlock := by
 intro he
 rcases h.2 with ⟨rfl, _⟩ | ⟨g', cap, cur, rfl, _, hg, _⟩
 · simp [Value.ownBlock] at he
 · obtain rfl : g = g' := by simpa [Value.ownBlock] using he
   unfold Box at hb
   rw [hg] at hb
   injection hb with hb
   injection hb with _ hb
   exact ht hb.symm
theorem RowC.far {w : World} {B g i : Nat} {v u : Value} {cs : List Chg} {t : TypeId} {xs : Array Value} (h : RowC w B v cs) (hb : Box w g t xs) (ht : t ≠ 192) : RowC (w.setCell ⟨g, i, none⟩ u) B v cs :=
 World.ownsRow.kept (row := some g) h ⟨rfl, rfl, rfl, by simp [World.setCell], fun k hk hn => Below.heap_setCell _ _ _ _ (fun e => hn (by rw [e]))⟩ (.inr (fun e => h.ne hb ht e.symm))
theorem RowC.rg {w w' : World} {B lo hi : Nat} {v : Value} {cs : List Chg} (h : RowC w B v cs) (hr : Rg lo hi w w') (hh : hi ≤ B) : RowC w' B v cs := by
 rcases h.2 with ⟨rfl, h0⟩ | ⟨g, cap, cur, rfl, hb, hg, r⟩
 · exact ⟨h.1, .inl ⟨rfl, h0⟩⟩
 · have hlt := (World.ownsRow.lt h g rfl).2
   exact ⟨h.1, .inr ⟨g, cap, cur, rfl, hb, (hr.block g hlt (.inr (by omega))).trans hg, r⟩⟩
def pN (c : Chg) : Int := c.2.1
def pO (c : Chg) : Int := c.2.2
def app (p : Chg → Int) (xs : List Int) (cs : List Chg) : List Int := cs.foldl (fun xs c => xs.set c.1.toNat (p c)) xs
theorem app_len (p : Chg → Int) (cs : List Chg) : ∀ xs, (app p xs cs).length = xs.length := by
 induction cs with
 | nil => intro xs; rfl
 | cons c cs ih => intro xs; show (app p (xs.set c.1.toNat (p c)) cs).length = _; rw [ih]; simp
def noteM (M : Int → Option Chg) (cs : List Chg) : Int → Option Chg := fun k => cs.foldl (fun o c => if c.1 = k then some c else o) (M k)
def noM : Int → Option Chg := fun _ => none
theorem noteM_succ (M : Int → Option Chg) (cs : List Chg) {k : Nat} (hk : k < cs.length) : noteM M (cs.take (k + 1)) = fun x => if x = (cs.getD k chZ).1 then some (cs.getD k chZ) else noteM M (cs.take k) x := by
 funext x
 unfold noteM
 rw [List.take_succ_eq_append_getElem hk, List.foldl_append, gdE, List.getElem?_eq_getElem hk]
 show (if cs[k].1 = x then _ else _) = if x = cs[k].1 then _ else _
 by_cases h : cs[k].1 = x
 · rw [if_pos h, if_pos h.symm]; rfl
 · rw [if_neg h, if_neg (fun e => h e.symm)]
theorem Chs.rg {w w' : World} {B lo hi : Nat} {A : Option Addr} {cs : List Chg} (h : Chs w B A cs) (hr : Rg lo hi w w') (hB : B ≤ lo) (hl : lo ≤ w.heap.size) : Chs w' B A cs := h.below (hr.below hl) hB
theorem Rg.alloc {lo hi : Nat} {a w : World} (h : Rg lo hi a w) (o : Obj) : Rg lo hi a (w.alloc o) := h.trans (Rg.of_nx ((Nx.refl w).alloc o))
def gV (A : Option Addr) (f t m : Int) (n c : Nat) : Array Value := #[ii f, ii t, ii m, .slice A n c]

section
variable {P : Program} {ops : Array Oper} {Q : Exit → Act → World → Prop} {S : World → Prop}
def HL (P : Program) (ops : Array Oper) (Q : Exit → Act → World → Prop) (S : World → Prop) : List Bool → List Oper → Act → World → Prop
 | false :: cs, o :: l, a, w => ∃ v, YieldsIf P ops S o v a ∧ HL P ops Q S cs l (a.put o.dst v) w
 | true :: cs, o :: l, a, w => Region.wanted o (yielded ops a.tmps) = true ∧ ∀ K : Act → World → Prop, Hid (∀ a' w', S w' → HL P ops Q S cs l a' w' → K a' w') → o.wp P a w K Q
 | _, _, a, w => Q .normal a w
def lexB (md : Region.Mode) (ops : Array Oper) : List Bool → Nat → Array Bool → Bool
 | [], _, listed => Region.ready md ops listed == []
 | false :: cs, k, listed => (Region.ready md ops listed).contains k && Region.free md ops listed k && lexB md ops cs (k + 1) (listed.setIfInBounds k true)
 | true :: cs, k, listed => (Region.ready md ops listed == [k]) && lexB md ops cs (k + 1) (listed.setIfInBounds k true)
theorem HL.take {cs : List Bool} {o : Oper} {l : List Oper} {a : Act} {w : World} {v : Value} (hw : Region.wanted o (yielded ops a.tmps) = true) (h : ∀ w, S w → (execOp a.eval o).run P w = .ok (.value v) w)
 (hr : HL P ops Q S cs l (a.put o.dst v) w) : HL P ops Q S (false :: cs) (o :: l) a w := ⟨v, .inl ⟨hw, h⟩, hr⟩
theorem HL.skip {cs : List Bool} {o : Oper} {l : List Oper} {a : Act} {w : World} (hw : Region.wanted o (yielded ops a.tmps) = false) (hr : HL P ops Q S cs l (a.put o.dst undef) w) : HL P ops Q S (false :: cs) (o :: l) a w :=
 ⟨undef, .inr ⟨hw, rfl⟩, hr⟩
theorem HL.tk {cs : List Bool} {o : Oper} {l : List Oper} {a : Act} {w : World} {v : Value} (hr : HL P ops Q S cs l (a.put o.dst v) w) (hw : Region.wanted o (yielded ops a.tmps) = true := by rfl)
 (h : ∀ w, S w → (execOp a.eval o).run P w = .ok (.value v) w := by (intro w hSw; (try dsimp only at hSw); go_simp; try with_reducible rfl)) : HL P ops Q S (false :: cs) (o :: l) a w := HL.take hw h hr
theorem HL.sk {cs : List Bool} {o : Oper} {l : List Oper} {a : Act} {w : World} (hr : HL P ops Q S cs l (a.put o.dst undef) w) (hw : Region.wanted o (yielded ops a.tmps) = false := by rfl) : HL P ops Q S (false :: cs) (o :: l) a w := HL.skip hw hr
theorem HL.call {cs : List Bool} {o : Oper} {l : List Oper} {a : Act} {w : World} (hw : Region.wanted o (yielded ops a.tmps) = true)
 (h : ∀ K : Act → World → Prop, Hid (∀ a' w', S w' → HL P ops Q S cs l a' w' → K a' w') → o.wp P a w K Q) : HL P ops Q S (true :: cs) (o :: l) a w := ⟨hw, h⟩
theorem hLc {cs : List Bool} {o : Oper} {l : List Oper} {a : Act} {w : World}
 (h : ∀ K : Act → World → Prop, Hid (∀ a' w', S w' → HL P ops Q S cs l a' w' → K a' w') → o.wp P a w K Q) (hw : Region.wanted o (yielded ops a.tmps) = true := by rfl) : HL P ops Q S (true :: cs) (o :: l) a w := ⟨hw, h⟩
theorem HL.done {a : Act} {w : World} (h : Q .normal a w) : HL P ops Q S [] [] a w := h
theorem HL.any {md : Region.Mode} (hs : Region.noSelect ops = true) (hQ : ∀ c a d v w, Q (.panic c) (Act.put a d v) w → Q (.panic c) a w) :
 ∀ (cs : List Bool) (l : List Oper) (k : Nat) (listed : Array Bool) (a : Act) (w : World), (∀ j, j < l.length → ops[k + j]? = l[j]?) → l.length = cs.length → lexB md ops cs k listed = true → S w →
   HL P ops Q S cs l a w → wpAnyH P md ops Q S cs.length listed a w
 | [], [], k, listed, a, w, _, _, hB, _, h => by
   refine wpAnyH_done ?_ h _
   simpa [lexB] using hB
 | [], _ :: _, _, _, _, _, _, hl, _, _, _ => by simp at hl
 | _ :: _, [], _, _, _, _, _, hl, _, _, _ => by simp at hl
 | c :: cs, o :: l, k, listed, a, w, ho, hl, hB, hS, h => by
   have h0 : ops[k]? = some o := by simpa using ho 0 (by simp)
   have ho' : ∀ j, j < l.length → ops[k + 1 + j]? = l[j]? := fun j hj => by
    have := ho (j + 1) (by simp; omega)
    rw [show k + 1 + j = k + (j + 1) by omega, this]; simp
   have hl' : l.length = cs.length := by simpa using hl
   cases c with
   | false =>
     simp only [lexB, Bool.and_eq_true] at hB
     obtain ⟨⟨hr, hf⟩, hB'⟩ := hB
     obtain ⟨v, hy, hK⟩ := h
     exact wpAnyH_take h0 hs hf hr (fun c a w => hQ c a _ _ w) hy hS (HL.any hs hQ cs l (k + 1) _ _ w ho' hl' hB' hS hK)
   | true =>
     simp only [lexB, Bool.and_eq_true, beq_iff_eq] at hB
     obtain ⟨hr, hB'⟩ := hB
     obtain ⟨hw, hK⟩ := h
     refine wpAnyH_all hr (by simp) fun i hi => ?_
     obtain rfl : i = k := by simpa using hi
     unfold wpOp
     simp only [h0, hw, if_true]
     exact .inl (hK _ (qh fun a' w' hS' h' => ⟨hS', HL.any hs hQ cs l (i + 1) _ a' w' ho' hl' hB' hS' h'⟩))
theorem wp_region_lex {id : Nat} {a : Act} {w : World} {l : List Oper} (cs : List Bool) (S : World → Prop) (hm : P.follows .mixedOrders = true) (hs : Region.noSelect l.toArray = true) (hl : l.length = cs.length)
 (hB : lexB .any l.toArray cs 0 (Array.replicate l.toArray.size false) = true) (hQ : ∀ c a d v w, Q (.panic c) (Act.put a d v) w → Q (.panic c) a w) (hS : S w.drew)
 (h : HL P l.toArray Q S cs l a w.drew) : (Code.region id l.toArray true).wp P Q a w := by
 refine wp_region_held_drew (S := S) hm hS fun _ => ?_
 have := HL.any (md := .any) hs hQ cs l 0 (Array.replicate l.toArray.size false) a w.drew (fun j hj => by simp) hl hB hS h
 have e : l.toArray.size = cs.length := by simpa using hl
 rw [e]
 rw [e] at this
 exact this
theorem wp_lexA {id : Nat} {a : Act} {w : World} {l : List Oper} (cs : List Bool) (S : World → Prop) (hS : S w.drew) (h : HL P l.toArray Q S cs l a w.drew) (hm : P.follows .mixedOrders = true := by kernel_rfl) (hs : Region.noSelect l.toArray = true := by kernel_rfl) (hl : l.length = cs.length := by rfl)
 (hB : lexB .any l.toArray cs 0 (Array.replicate l.toArray.size false) = true := by kernel_rfl) (hQ : ∀ c a d v w, Q (.panic c) (Act.put a d v) w → Q (.panic c) a w := by exact (fun _ _ d _ _ h => by cases d <;> exact h)) : (Code.region id l.toArray true).wp P Q a w := wp_region_lex cs S hm hs hl hB hQ hS h
end

end Go.Proofs.YtieoiailjjnnoaaGreatDoor
