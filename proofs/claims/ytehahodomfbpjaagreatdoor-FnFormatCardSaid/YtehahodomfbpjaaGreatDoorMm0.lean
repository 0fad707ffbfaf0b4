/-
  Texts of the proof, put together in their order: JfFnFormat, Core, Base, To, Eq, Mk, Nd, Frm, Ins.
  Conditions: those of each.
-/
import Derived.Test.YtehahodomfbpjaaGreatDoorRows
import Derived.JoinedOf
import Derived.WalkKit
import Derived.ProofKit
import Derived.OpenShut
import Derived.ShutString
import Derived.WalkSpells
import Derived.Lib.Hide
import Derived.Below
import Derived.Laws.OwnMore
import Derived.Deep.Draws
import Derived.Laws.Rows
import Derived.Laws.MakeOwn
import Derived.Laws.Entries
import Derived.OwnWalk
import Derived.Outline
import Derived.Deep.QuietTactic
import Derived.BigQuiet
import Derived.StillTailTactics
import Derived.Deep.RegionHeld3
import Derived.Laws.BytesArg
/- The facts of a row that a program decides, for the law FnFormat. Conditions: none. -/
namespace Go.Proofs.YtehahodomfbpjaaGreatDoor.fnFormatJ
set_option linter.unusedVariables false
set_option maxRecDepth 100000
theorem both {a b : Bool} (ha : a = true) (hb : b = true) : (a && b) = true := by rw [ha, hb]; rfl
theorem p0 : (Rows.fnFormatRow.wf (OpenSpec.ofChange Rows.fnFormatSpec)) = true := by kernel_rfl
theorem p1 : (laidOutB Tryz.checked.prog) = true := by kernel_rfl
theorem p2 : (mapsRowed Tryz.checked.prog) = true := by kernel_rfl
theorem p3 : (Tryz.f6.params.all (Tryz.checked.prog.readableRec ·)) = true := by kernel_rfl
theorem p4 : (namedTie Tryz.checked.prog Rows.fnFormatRow.named Rows.fnFormatSpec.vars) = true := by kernel_rfl
theorem p5 : ((Rows.fnFormatRow.stops == [])) = true := by kernel_rfl
theorem p6 : ((Tryz.checked.prog.stops == [])) = true := by kernel_rfl
theorem p7 : ((Rows.fnFormatRow.knobs == [])) = true := by kernel_rfl
theorem p8 : ((Tryz.checked.prog.stopKnobs == [])) = true := by kernel_rfl
theorem p9 : ((Rows.fnFormatRow.inPlace == Tryz.checked.prog.inPlace 6)) = true := by kernel_rfl
theorem p10 : ((Rows.fnFormatRow.unfollowed == Tryz.checked.prog.unfollowed 6)) = true := by kernel_rfl
theorem p11 : ((Rows.fnFormatRow.recurses == Tryz.checked.prog.recurses 6)) = true := by kernel_rfl
theorem p12 : ((Rows.fnFormatRow.named == Tryz.checked.prog.varsNamed 6)) = true := by kernel_rfl
theorem p13 : ((Rows.fnFormatRow.maps == (Tryz.f6.params.toList ++ Rows.fnFormatSpec.plain.varTypes Tryz.checked.prog).any (Tryz.checked.prog.mapsRec ·))) = true := by kernel_rfl
theorem p14 : ((Rows.fnFormatRow.ifaces == (Tryz.f6.params.toList ++ Rows.fnFormatSpec.plain.varTypes Tryz.checked.prog).any (Tryz.checked.prog.ifacesRec ·))) = true := by kernel_rfl
theorem p15 : ((Rows.fnFormatRow.mapsOut == Tryz.checked.prog.mapsAmong Tryz.f6.resultTypes.toList)) = true := by kernel_rfl
theorem p16 : ((Rows.fnFormatRow.loops == (Tryz.f6.params.toList ++ Rows.fnFormatSpec.plain.varTypes Tryz.checked.prog).any (Tryz.checked.prog.loopsFrom ·))) = true := by kernel_rfl
theorem p17 : ((Rows.fnFormatRow.wideKeys == (Tryz.f6.params.toList ++ Rows.fnFormatSpec.plain.varTypes Tryz.checked.prog ++ Tryz.f6.resultTypes.toList).any (Tryz.checked.prog.wideKeysFrom ·))) = true := by kernel_rfl
theorem p18 : (Rows.fnFormatSpec.vars.all (Tryz.checked.prog.varReadable ·)) = true := by kernel_rfl
theorem p19 : (Tryz.f6.resultTypes.all (fun t => Tryz.checked.prog.readableRec t && decide (t < Tryz.checked.prog.types.size))) = true := by kernel_rfl
theorem p20 : ((Rows.fnFormatRow.ifacesOut == Tryz.f6.resultTypes.toList.any (Tryz.checked.prog.ifacesRec ·))) = true := by kernel_rfl
theorem p21 : ((Rows.fnFormatRow.loopsOut == Tryz.f6.resultTypes.toList.any (Tryz.checked.prog.loopsFrom ·))) = true := by kernel_rfl
theorem p22 : ((Rows.fnFormatRow.plainKeys == Tryz.checked.prog.plainKeys)) = true := by kernel_rfl
theorem p23 : (Rows.fnFormatRow.shortTexts.isNone) = true := by kernel_rfl
theorem p24 : (Tryz.checked.prog.stopsHeard) = true := by kernel_rfl
theorem p25 : (Tryz.checked.prog.mayEnter) = true := by kernel_rfl
theorem p26 : ((Rows.fnFormatRow.lifted == Tryz.checked.prog.liftsFinal)) = true := by kernel_rfl
theorem p27 : ((Tryz.checked.prog.make == some Rows.fnFormatRow.make)) = true := by kernel_rfl
theorem p28 : ((Rows.fnFormatRow.kinds == (if Rows.fnFormatRow.domain.isEmpty then [] else Tryz.f6.params.toList.map fun t => match Tryz.checked.prog.underlying t with | some (.int k) => some k | _ => none))) = true := by kernel_rfl
theorem p29 : ((Rows.fnFormatRow.pinned == Rows.fnFormatRow.pinnedBy)) = true := by kernel_rfl
theorem p30 : ((Rows.fnFormatRow.veiled == (Tryz.f6.params.toList ++ Rows.fnFormatSpec.plain.varTypes Tryz.checked.prog ++ Tryz.f6.resultTypes.toList).any (Tryz.checked.prog.veiledRec ·))) = true := by kernel_rfl
theorem p31 : (Rows.fnFormatRow.veiledFits Tryz.checked.prog Tryz.f6.params.toList (Tryz.f6.params.toList ++ Rows.fnFormatSpec.plain.varTypes Tryz.checked.prog ++ Tryz.f6.resultTypes.toList)) = true := by kernel_rfl
theorem facts : joinedFacts Tryz.checked.prog 6 Tryz.f6 Rows.fnFormatSpec Rows.fnFormatRow = true := (both (both (both (both (both (both (both (both (both (both (both (both (both (both (both (both (both (both (both (both (both (both (both (both (both (both (both (both (both (both (both p0 p1) p2) p3) p4) p5) p6) p7) p8) p9) p10) p11) p12) p13) p14) p15) p16) p17) p18) p19) p20) p21) p22) p23) p24) p25) p26) p27) p28) p29) p30) p31)
end Go.Proofs.YtehahodomfbpjaaGreatDoor.fnFormatJ
/- Words on memory for the texts of this seat: blocks of the call's own, blocks that are known whole, what a size is, and how these facts go on from world to world. Conditions: none. -/
namespace Go.Proofs.YtehahodomfbpjaaGreatDoor
set_option linter.unusedVariables false
set_option maxRecDepth 100000
open Go.RowKit

theorem ret_bool {a b : Bool} (h : a = b) : Ending.returned (.bool a) = .returned (.bool b) := by rw [h]
theorem ret_int {a b : Int} (h : a = b) : Ending.returned (.int .i64 a) = .returned (.int .i64 b) := by rw [h]

/-- Nothing that was there has turned. -/
abbrev Nx (w w' : World) : Prop := Below w.heap.size w w'
theorem Nx.refl (w : World) : Nx w w := Below.refl _ _
theorem Nx.trans {a b c : World} (h : Nx a b) (k : Nx b c) : Nx a c := Below.trans h (Below.mono k h.size)
theorem Nx.alloc {a w : World} (h : Nx a w) (o : Obj) : Nx a (w.alloc o) := Below.alloc h h.size o
theorem Nx.drew {a w : World} (h : Nx a w) : Nx a w.drew := ⟨h.os, h.tape, h.output, h.size, h.block⟩
theorem Nx.drewN {a w : World} (h : Nx a w) (n : Nat) : Nx a (w.drewN n) := ⟨h.os, h.tape, h.output, h.size, h.block⟩
theorem Nx.drew_r {a w : World} (h : Nx a.drew w) : Nx a w := ⟨h.os, h.tape, h.output, h.size, h.block⟩

/-- The cells from an address on, in a block below B. -/
def Row (w : World) (B : Nat) (A : Option Addr) (m : Nat) (f : Nat → Value) : Prop :=
  0 < m → ∃ b off, A = some ⟨b, off, none⟩ ∧ b < B ∧ ∀ i, i < m → w.cell? ⟨b, off + i, none⟩ = some (f i)
theorem Row.keep {w w' : World} {B m : Nat} {A : Option Addr} {f : Nat → Value} (h : Row w B A m f) (hk : ∀ p : Addr, p.block < B → w'.cell? p = w.cell? p) : Row w' B A m f := fun hm => by
  obtain ⟨b, off, e, hb, hc⟩ := h hm
  exact ⟨b, off, e, hb, fun i hi => (hk _ hb).trans (hc i hi)⟩
theorem Row.more {w : World} {B B' m : Nat} {A : Option Addr} {f : Nat → Value} (h : Row w B A m f) (hB : B ≤ B') : Row w B' A m f := fun hm => by
  obtain ⟨b, off, e, hb, hc⟩ := h hm
  exact ⟨b, off, e, by omega, hc⟩
theorem Row.below {w w' : World} {B B' m : Nat} {A : Option Addr} {f : Nat → Value} (h : Row w B A m f) (hb : Below B' w w') (hB : B ≤ B') : Row w' B A m f := h.keep fun _ hp => hb.cell (by omega)

/-- A slice of bools that is read. -/
def blAt (bs : List Bool) (i : Nat) : Value := .bool (bs.getD i false)
def Bls (w : World) (B : Nat) (A : Option Addr) (n : Nat) (bs : List Bool) : Prop := bs.length = n ∧ Row w B A n (blAt bs)
theorem Bls.below {w w' : World} {B B' n : Nat} {A : Option Addr} {bs : List Bool} (h : Bls w B A n bs) (hb : Below B' w w') (hB : B ≤ B') : Bls w' B A n bs := ⟨h.1, h.2.below hb hB⟩
theorem Bls.more {w : World} {B B' n : Nat} {A : Option Addr} {bs : List Bool} (h : Bls w B A n bs) (hB : B ≤ B') : Bls w B' A n bs := ⟨h.1, h.2.more hB⟩
theorem Bls.at_ {w : World} {B n k : Nat} {A : Option Addr} {bs : List Bool} (h : Bls w B A n bs) (hk : k < n) :
    ∃ b off, A = some ⟨b, off, none⟩ ∧ b < B ∧ w.cell? ⟨b, off + k, none⟩ = some (.bool (bs.getD k false)) := by
  obtain ⟨b, off, e, hb, hc⟩ := h.2 (by omega)
  exact ⟨b, off, e, hb, hc k hk⟩
/-- A block of the call's own, known whole, none of it frozen: its first m cells are f. -/
def Own (w : World) (g : Nat) (t : TypeId) (m : Nat) (f : Nat → Value) : Prop :=
  ∃ cs : Array Value, w.heap[g]? = some (.cells cs t (0, 0)) ∧ m ≤ cs.size ∧ ∀ i, i < m → cs[i]? = some (f i)
section
variable {w w' : World} {g : Nat} {t : TypeId} {m : Nat} {f : Nat → Value}
theorem Own.lt (h : Own w g t m f) : g < w.heap.size := by
  obtain ⟨cs, h, _⟩ := h
  rcases Nat.lt_or_ge g w.heap.size with hlt | hge
  · exact hlt
  · rw [Array.getElem?_eq_none hge] at h; cases h
theorem Own.cell (h : Own w g t m f) {i : Nat} (hi : i < m) : w.cell? ⟨g, i, none⟩ = some (f i) := by
  obtain ⟨cs, h, _, hc⟩ := h
  exact (cell_of_row w g i cs t (0, 0) h).trans (hc i hi)
theorem Own.frozen (h : Own w g t m f) (i : Nat) : w.frozen? ⟨g, i, none⟩ = false := by
  obtain ⟨cs, h, _⟩ := h
  simp [World.frozen?, h]
theorem Own.of_block (h : Own w g t m f) (hb : w'.heap[g]? = w.heap[g]?) : Own w' g t m f := by
  obtain ⟨cs, h, r⟩ := h
  exact ⟨cs, hb.trans h, r⟩
theorem Own.below {B : Nat} (h : Own w g t m f) (hb : Below B w w') (hg : g < B) : Own w' g t m f := h.of_block (hb.block g hg)
theorem Own.nx (h : Own w g t m f) (hb : Nx w w') : Own w' g t m f := h.of_block (hb.block g h.lt)
theorem Own.row (h : Own w g t m f) {B : Nat} (hB : g < B) : Row w B (some ⟨g, 0, none⟩) m f := fun _ =>
  ⟨g, 0, rfl, hB, fun i hi => by rw [Nat.zero_add]; exact h.cell hi⟩
theorem Own.set (h : Own w g t m f) {k : Nat} (hk : k < m) (v : Value) : Own (w.setCell ⟨g, k, none⟩ v) g t m (fun i => if i = k then v else f i) := by
  obtain ⟨cs, h, hm, hc⟩ := h
  refine ⟨cs.setIfInBounds k v, ?_, by simpa using hm, fun i hi => ?_⟩
  · simp [World.setCell, Array.getElem?_modify, h]
  · rw [Array.getElem?_setIfInBounds]
    by_cases e : k = i
    · subst e; rw [if_pos rfl, if_pos (by omega)]; simp
    · rw [if_neg e, hc i hi]; show some (f i) = some (if i = k then v else f i); rw [if_neg (fun h : i = k => e h.symm)]
theorem Own.far (h : Own w g t m f) {p : Addr} (hp : g ≠ p.block) (v : Value) : Own (w.setCell p v) g t m f := h.of_block (Below.heap_setCell w p v g hp)
theorem Own.alloc (h : Own w g t m f) (o : Obj) : Own (w.alloc o) g t m f := h.of_block (Below.heap_alloc w o g h.lt)
theorem Own.drewN (h : Own w g t m f) (n : Nat) : Own (w.drewN n) g t m f := h
theorem Own.congr {f' : Nat → Value} (h : Own w g t m f) (hf : ∀ i, i < m → f i = f' i) : Own w g t m f' := by
  obtain ⟨cs, h, hm, hc⟩ := h
  exact ⟨cs, h, hm, fun i hi => by rw [← hf i hi]; exact hc i hi⟩
end
/-- A block of the call's own that is being filled: its first k cells are F already. -/
def Fill (w : World) (g : Nat) (t : TypeId) (m k : Nat) (F : Nat → Value) : Prop := ∃ f, Own w g t m f ∧ ∀ i, i < k → f i = F i
section
variable {w w' : World} {g : Nat} {t : TypeId} {m k : Nat} {f F : Nat → Value}
theorem Fill.start (h : Own w g t m f) : Fill w g t m 0 F := ⟨f, h, fun i hi => absurd hi (by omega)⟩
theorem Fill.lt (h : Fill w g t m k F) : g < w.heap.size := by
  obtain ⟨f, h, _⟩ := h; exact h.lt
theorem Fill.some_ (h : Fill w g t m k F) {i : Nat} (hi : i < m) : ∃ v, w.cell? ⟨g, i, none⟩ = some v := by
  obtain ⟨f, h, _⟩ := h; exact ⟨_, h.cell hi⟩
theorem Fill.frozen (h : Fill w g t m k F) (i : Nat) : w.frozen? ⟨g, i, none⟩ = false := by
  obtain ⟨f, h, _⟩ := h; exact h.frozen i
theorem Fill.step (h : Fill w g t m k F) (hk : k < m) {v : Value} (hv : v = F k) : Fill (w.setCell ⟨g, k, none⟩ v) g t m (k + 1) F := by
  obtain ⟨f, h, hf⟩ := h
  refine ⟨_, h.set hk v, fun i hi => ?_⟩
  by_cases e : i = k
  · subst e; simp [hv]
  · simp only [if_neg e]; exact hf i (by omega)
theorem Fill.done (h : Fill w g t m m F) : Own w g t m F := by
  obtain ⟨f, h, hf⟩ := h; exact h.congr hf
theorem Fill.nx (h : Fill w g t m k F) (hb : Nx w w') : Fill w' g t m k F := by
  obtain ⟨f, h, hf⟩ := h; exact ⟨f, h.nx hb, hf⟩
theorem Nx.setCell {a w : World} (h : Nx a w) {p : Addr} (hp : a.heap.size ≤ p.block) (v : Value) : Nx a (w.setCell p v) := Below.setCell h hp v
end
theorem Own.made (w : World) (z : Array Value) (n : Nat) (t : TypeId) : Own (w.alloc (.cells (madeCells z n) t)) w.heap.size t n (fun i => z[i % z.size]!) :=
  ⟨_, heap_alloc_new w _, by rw [size_madeCells]; exact Nat.le_refl _, fun i hi => by simp [madeCells, hi]⟩
theorem run_make_rowN {P : Program} (t e : TypeId) (i : TypeInfo) (z : Value) (ht : P.underlying t = some (.slice e)) (hi : P.info? e = some i) (hz : i.zero = some z)
    (kl kc : IntKind) (n c : Nat) (hnc : n ≤ c) (hbytes : i.bytes * c ≤ 281474976710656) (h63 : c ≤ 9223372036854775807) (w : World) :
    (Instr.makeSlice t (.int kl (n : Int)) (.int kc (c : Int))).run P w = .ok (.slice (some ⟨w.heap.size, 0, none⟩) n c) (w.alloc (.cells (madeCells z.cells (c * i.size)) e)) := by
  have hb : (i.bytes : Int) * (c : Int) ≤ 281474976710656 := by
    have h : ((i.bytes * c : Nat) : Int) ≤ 281474976710656 := by omega
    rwa [Int.natCast_mul] at h
  have hr := run_make (P := P) w t e i z ht hi hz kl kc n c (by omega) (by omega) hb (by omega)
  simp only [Int.toNat_natCast] at hr
  exact hr
/-- Of what was there nothing has turned but, perhaps, the blocks from lo to below hi. -/
structure Rg (lo hi : Nat) (w w' : World) : Prop where
  os : w'.os = w.os
  tape : w'.tape = w.tape
  output : w'.output = w.output
  size : w.heap.size ≤ w'.heap.size
  block : ∀ k, k < w.heap.size → (k < lo ∨ hi ≤ k) → w'.heap[k]? = w.heap[k]?
theorem Rg.of_nx {lo hi : Nat} {w w' : World} (h : Nx w w') : Rg lo hi w w' := ⟨h.os, h.tape, h.output, h.size, fun k hk _ => h.block k hk⟩
theorem Rg.trans {lo hi : Nat} {a b c : World} (h : Rg lo hi a b) (k : Rg lo hi b c) : Rg lo hi a c :=
  ⟨k.os.trans h.os, k.tape.trans h.tape, k.output.trans h.output, Nat.le_trans h.size k.size, fun i hi' hr => (k.block i (Nat.lt_of_lt_of_le hi' h.size) hr).trans (h.block i hi' hr)⟩
theorem Rg.setCell {lo hi : Nat} {a w : World} (h : Rg lo hi a w) {p : Addr} (h1 : lo ≤ p.block) (h2 : p.block < hi) (v : Value) : Rg lo hi a (w.setCell p v) :=
  h.trans ⟨rfl, rfl, rfl, by simp [World.setCell], fun k _ hr => Below.heap_setCell _ _ _ _ (by omega)⟩
theorem Rg.below {lo hi : Nat} {w w' : World} (h : Rg lo hi w w') (hB : lo ≤ w.heap.size) : Below lo w w' := ⟨h.os, h.tape, h.output, h.size, fun k hk => h.block k (by omega) (.inl hk)⟩
theorem Rg.nx_of {lo hi : Nat} {a w w' : World} (h : Nx a w) (k : Rg lo hi w w') (hl : a.heap.size ≤ lo) : Nx a w' :=
  ⟨k.os.trans h.os, k.tape.trans h.tape, k.output.trans h.output, Nat.le_trans h.size k.size, fun i hi' => (k.block i (Nat.lt_of_lt_of_le hi' h.size) (.inl (by omega))).trans (h.block i hi')⟩
theorem Own.rg {lo hi : Nat} {w w' : World} {g : Nat} {t : TypeId} {m : Nat} {f : Nat → Value} (h : Own w g t m f) (hb : Rg lo hi w w') (hg : g < lo ∨ hi ≤ g) : Own w' g t m f := h.of_block (hb.block g h.lt hg)
/-- Blocks of the call's own that hold another type than t have not turned. -/
def TyK (t : TypeId) (w w' : World) : Prop := ∀ g t' m f, t' ≠ t → Own w g t' m f → Own w' g t' m f
theorem TyK.refl (t : TypeId) (w : World) : TyK t w w := fun _ _ _ _ _ h => h
theorem TyK.nx {t : TypeId} {a w w' : World} (h : TyK t a w) (hb : Nx w w') : TyK t a w' := fun g t' m f hne ho => (h g t' m f hne ho).nx hb
theorem Own.ne_type {w : World} {g g' : Nat} {t t' : TypeId} {m m' : Nat} {f f' : Nat → Value} (h : Own w g t m f) (h' : Own w g' t' m' f') (hne : t' ≠ t) : g' ≠ g := by
  rintro rfl
  obtain ⟨cs, h, _⟩ := h
  obtain ⟨cs', h', _⟩ := h'
  rw [h] at h'
  injection h' with h'
  injection h' with _ ht
  exact hne ht.symm
theorem TyK.set {t : TypeId} {a w : World} (h : TyK t a w) {g i m : Nat} {f : Nat → Value} (ho : Own w g t m f) (v : Value) : TyK t a (w.setCell ⟨g, i, none⟩ v) := fun g' t' m' f' hne h' =>
  (h g' t' m' f' hne h').far (Own.ne_type ho (h g' t' m' f' hne h') hne) v
/-- A block that is known whole. -/
def Box (w : World) (g : Nat) (t : TypeId) (cs : Array Value) : Prop := w.heap[g]? = some (.cells cs t (0, 0))
section
variable {w w' : World} {g : Nat} {t : TypeId} {cs : Array Value} {v0 v1 : Value}
theorem Box.lt (h : Box w g t cs) : g < w.heap.size := by
  rcases Nat.lt_or_ge g w.heap.size with hlt | hge
  · exact hlt
  · unfold Box at h; rw [Array.getElem?_eq_none hge] at h; cases h
theorem Box.new (w : World) (t : TypeId) (cs : Array Value) : Box (w.alloc (.cells cs t)) w.heap.size t cs := heap_alloc_new w _
theorem Box.alloc (h : Box w g t cs) (o : Obj) : Box (w.alloc o) g t cs := (Below.heap_alloc w o g h.lt).trans h
theorem Box.nx (h : Box w g t cs) (hb : Nx w w') : Box w' g t cs := (hb.block g h.lt).trans h
theorem Box.rg {lo hi : Nat} (h : Box w g t cs) (hb : Rg lo hi w w') (hg : g < lo ∨ hi ≤ g) : Box w' g t cs := (hb.block g h.lt hg).trans h
theorem Box.grown {row : Option Nat} (h : Box w g t cs) (hb : w.grownBy w' row) (hg : some g ≠ row) : Box w' g t cs := (hb.block g h.lt hg).trans h
theorem Box.far (h : Box w g t cs) {p : Addr} (hp : g ≠ p.block) (u : Value) : Box (w.setCell p u) g t cs := (Below.heap_setCell w p u g hp).trans h
theorem Box.cell (h : Box w g t cs) (i : Nat) : w.cell? ⟨g, i, none⟩ = cs[i]? := cell_of_row w g i cs t (0, 0) h
theorem Box.frozen (h : Box w g t cs) (i : Nat) : w.frozen? ⟨g, i, none⟩ = false := by
  unfold Box at h
  simp [World.frozen?, h]
theorem Box.c0 (h : Box w g t #[v0, v1]) : w.cell? ⟨g, 0, none⟩ = some v0 := h.cell 0
theorem Box.c1 (h : Box w g t #[v0, v1]) : w.cell? ⟨g, 1, none⟩ = some v1 := h.cell 1
theorem Box.set0 (h : Box w g t #[v0, v1]) (u : Value) : Box (w.setCell ⟨g, 0, none⟩ u) g t #[u, v1] := by
  unfold Box at h ⊢
  simp [World.setCell, Array.getElem?_modify, h]
theorem Box.set1 (h : Box w g t #[v0, v1]) (u : Value) : Box (w.setCell ⟨g, 1, none⟩ u) g t #[v0, u] := by
  unfold Box at h ⊢
  simp [World.setCell, Array.getElem?_modify, h]
end
/-- A slice's m cells lie in a block of the call's own, from block number lo on. -/
def Sl (w : World) (lo : Nat) (A : Option Addr) (t : TypeId) (m : Nat) (f : Nat → Value) : Prop := 0 < m → ∃ g, A = some ⟨g, 0, none⟩ ∧ lo ≤ g ∧ Own w g t m f
/-- .. its number from lo to below hi. -/
def Sr (w : World) (lo hi : Nat) (A : Option Addr) (t : TypeId) (m : Nat) (f : Nat → Value) : Prop := 0 < m → ∃ g, A = some ⟨g, 0, none⟩ ∧ lo ≤ g ∧ g < hi ∧ Own w g t m f
section
variable {w w' : World} {lo lo' hi : Nat} {A : Option Addr} {t : TypeId} {m : Nat} {f : Nat → Value}
theorem Sl.none_ (w : World) (lo : Nat) (A : Option Addr) (t : TypeId) (f : Nat → Value) : Sl w lo A t 0 f := fun h => absurd h (by omega)
theorem Sl.nx (h : Sl w lo A t m f) (hb : Nx w w') : Sl w' lo A t m f := fun hm => by
  obtain ⟨g, e, hl, ho⟩ := h hm; exact ⟨g, e, hl, ho.nx hb⟩
theorem Sl.low (h : Sl w lo A t m f) (hl : lo' ≤ lo) : Sl w lo' A t m f := fun hm => by
  obtain ⟨g, e, hl2, ho⟩ := h hm; exact ⟨g, e, Nat.le_trans hl hl2, ho⟩
theorem Sl.row (h : Sl w lo A t m f) : Row w w.heap.size A m f := fun hm => by
  obtain ⟨g, e, hl, ho⟩ := h hm; subst e; exact ho.row ho.lt hm
theorem Sl.sr (h : Sl w lo A t m f) : Sr w lo w.heap.size A t m f := fun hm => by
  obtain ⟨g, e, hl, ho⟩ := h hm; exact ⟨g, e, hl, ho.lt, ho⟩
theorem Sl.own {g : Nat} (h : Own w g t m f) (hg : lo ≤ g) : Sl w lo (some ⟨g, 0, none⟩) t m f := fun _ => ⟨g, rfl, hg, h⟩
theorem Sl.far (h : Sl w lo A t m f) {p : Addr} (hp : p.block < lo) (v : Value) : Sl (w.setCell p v) lo A t m f := fun hm => by
  obtain ⟨g, e, hl, ho⟩ := h hm; exact ⟨g, e, hl, ho.far (by omega) v⟩
theorem Sl.far_ty (h : Sl w lo A t m f) {p : Addr} {t' : TypeId} {cs : Array Value} (hp : Box w p.block t' cs) (ht : t' ≠ t) (v : Value) : Sl (w.setCell p v) lo A t m f := fun hm => by
  obtain ⟨g, e, hl, ho⟩ := h hm
  refine ⟨g, e, hl, ho.far (fun he => ?_) v⟩
  obtain ⟨cs', hc, _⟩ := ho
  unfold Box at hp
  rw [← he, hc] at hp
  injection hp with hp
  injection hp with _ hp
  exact ht hp.symm
theorem Sr.sl (h : Sr w lo hi A t m f) : Sl w lo A t m f := fun hm => by
  obtain ⟨g, e, hl, _, ho⟩ := h hm; exact ⟨g, e, hl, ho⟩
theorem Sr.nx (h : Sr w lo hi A t m f) (hb : Nx w w') : Sr w' lo hi A t m f := fun hm => by
  obtain ⟨g, e, hl, hh, ho⟩ := h hm; exact ⟨g, e, hl, hh, ho.nx hb⟩
theorem Sr.rg {a b : Nat} (h : Sr w lo hi A t m f) (hb : Rg a b w w') (hd : hi ≤ a ∨ b ≤ lo) : Sr w' lo hi A t m f := fun hm => by
  obtain ⟨g, e, hl, hh, ho⟩ := h hm; exact ⟨g, e, hl, hh, ho.rg hb (by omega)⟩
theorem Sr.ty {t' : TypeId} (h : Sr w lo hi A t m f) (hb : TyK t' w w') (hne : t ≠ t') : Sr w' lo hi A t m f := fun hm => by
  obtain ⟨g, e, hl, hh, ho⟩ := h hm; exact ⟨g, e, hl, hh, hb _ _ _ _ hne ho⟩
end
theorem Box.set {w : World} {g : Nat} {t : TypeId} {cs : Array Value} (h : Box w g t cs) (i : Nat) (u : Value) : Box (w.setCell ⟨g, i, none⟩ u) g t (cs.setIfInBounds i u) := by
  unfold Box at h ⊢
  simp [World.setCell, Array.getElem?_modify, h]
/-- A result's box of four cells, filled at the end. -/
def put4 (u : World) (g : Nat) (v0 v1 v2 v3 : Value) : World := (((u.setCell ⟨g, 0, none⟩ v0).setCell ⟨g, 1, none⟩ v1).setCell ⟨g, 2, none⟩ v2).setCell ⟨g, 3, none⟩ v3
theorem put4_box {u : World} {g : Nat} {t : TypeId} {a b c d : Value} (hb : Box u g t #[a, b, c, d]) (v0 v1 v2 v3 : Value) : Box (put4 u g v0 v1 v2 v3) g t #[v0, v1, v2, v3] :=
  (((hb.set 0 v0).set 1 v1).set 2 v2).set 3 v3
theorem put4_nx {w u : World} {g : Nat} (hx : Nx w u) (hg : w.heap.size ≤ g) (v0 v1 v2 v3 : Value) : Nx w (put4 u g v0 v1 v2 v3) :=
  (((hx.setCell (p := ⟨g, 0, none⟩) hg v0).setCell (p := ⟨g, 1, none⟩) hg v1).setCell (p := ⟨g, 2, none⟩) hg v2).setCell (p := ⟨g, 3, none⟩) hg v3
theorem Box.d3 {w : World} {g : Nat} {t : TypeId} {v0 v1 v2 : Value} (h : Box w g t #[v0, v1, v2]) : w.cell? ⟨g, 0, none⟩ = some v0 ∧ w.cell? ⟨g, 1, none⟩ = some v1 ∧ w.cell? ⟨g, 2, none⟩ = some v2 :=
  ⟨h.cell 0, h.cell 1, h.cell 2⟩
theorem Box.d4 {w : World} {g : Nat} {t : TypeId} {v0 v1 v2 v3 : Value} (h : Box w g t #[v0, v1, v2, v3]) : w.cell? ⟨g, 0, none⟩ = some v0 ∧ w.cell? ⟨g, 1, none⟩ = some v1 ∧ w.cell? ⟨g, 2, none⟩ = some v2 ∧ w.cell? ⟨g, 3, none⟩ = some v3 :=
  ⟨h.cell 0, h.cell 1, h.cell 2, h.cell 3⟩
end Go.Proofs.YtehahodomfbpjaaGreatDoor
/- Words on memory for the texts of this seat: slices of texts and of writes that are read, what a size is, and how these facts go on from world to world. Conditions: none. -/
namespace Go.Proofs.YtehahodomfbpjaaGreatDoor
set_option linter.unusedVariables false
set_option maxRecDepth 100000
open Go.RowKit

def Strs (w : World) (B : Nat) (A : Option Addr) (n : Nat) (ss : List ByteArray) : Prop :=
  ss.length = n ∧ Row w B A n (fun i => .string (ss.getD i ByteArray.empty))
def Wrs (w : World) (B : Nat) (A : Option Addr) (n : Nat) (ws : List (Int × ByteArray)) : Prop :=
  ws.length = n ∧ Row w B A (n * 2) (fun i => if i % 2 = 0 then .int .i64 (ws.getD (i / 2) (0, ByteArray.empty)).1 else .string (ws.getD (i / 2) (0, ByteArray.empty)).2)
theorem Strs.below {w w' : World} {B B' n : Nat} {A : Option Addr} {ss : List ByteArray} (h : Strs w B A n ss) (hb : Below B' w w') (hB : B ≤ B') : Strs w' B A n ss := ⟨h.1, h.2.below hb hB⟩
theorem Strs.more {w : World} {B B' n : Nat} {A : Option Addr} {ss : List ByteArray} (h : Strs w B A n ss) (hB : B ≤ B') : Strs w B' A n ss := ⟨h.1, h.2.more hB⟩
theorem Wrs.below {w w' : World} {B B' n : Nat} {A : Option Addr} {ws : List (Int × ByteArray)} (h : Wrs w B A n ws) (hb : Below B' w w') (hB : B ≤ B') : Wrs w' B A n ws := ⟨h.1, h.2.below hb hB⟩
theorem Wrs.more {w : World} {B B' n : Nat} {A : Option Addr} {ws : List (Int × ByteArray)} (h : Wrs w B A n ws) (hB : B ≤ B') : Wrs w B' A n ws := ⟨h.1, h.2.more hB⟩
theorem Strs.at_ {w : World} {B n k : Nat} {A : Option Addr} {ss : List ByteArray} (h : Strs w B A n ss) (hk : k < n) :
    ∃ b off, A = some ⟨b, off, none⟩ ∧ b < B ∧ w.cell? ⟨b, off + k, none⟩ = some (.string (ss.getD k ByteArray.empty)) := by
  obtain ⟨b, off, e, hb, hc⟩ := h.2 (by omega)
  exact ⟨b, off, e, hb, hc k hk⟩
theorem Wrs.at_ {w : World} {B n k : Nat} {A : Option Addr} {ws : List (Int × ByteArray)} (h : Wrs w B A n ws) (hk : k < n) :
    ∃ b off, A = some ⟨b, off, none⟩ ∧ b < B ∧ w.cell? ⟨b, off + k * 2, none⟩ = some (.int .i64 (ws.getD k (0, ByteArray.empty)).1) ∧ w.cell? ⟨b, off + k * 2 + 1, none⟩ = some (.string (ws.getD k (0, ByteArray.empty)).2) := by
  obtain ⟨b, off, e, hb, hc⟩ := h.2 (by omega)
  have h0 := hc (k * 2) (by omega)
  have h1 := hc (k * 2 + 1) (by omega)
  have e1 : (k * 2) % 2 = 0 := by omega
  have e2 : ¬ (k * 2 + 1) % 2 = 0 := by omega
  have e3 : (k * 2) / 2 = k := by omega
  have e4 : (k * 2 + 1) / 2 = k := by omega
  simp only [e1, e3, if_true] at h0
  simp only [e2, e4, if_false] at h1
  exact ⟨b, off, e, hb, h0, h1⟩

def strAt (ss : List ByteArray) (i : Nat) : Value := .string (ss.getD i ByteArray.empty)
def wrAt (ws : List (Int × ByteArray)) (i : Nat) : Value := if i % 2 = 0 then .int .i64 (ws.getD (i / 2) (0, ByteArray.empty)).1 else .string (ws.getD (i / 2) (0, ByteArray.empty)).2
/-- A slice's row of texts, and of writes, in a block of the call's own. -/
def OwnS (w : World) (g : Nat) (ss : List ByteArray) : Prop := Own w g 9 ss.length (strAt ss)
def OwnW (w : World) (g : Nat) (ws : List (Int × ByteArray)) : Prop := Own w g 123 (ws.length * 2) (wrAt ws)
/-- A slice value whose elements lie in a block of the call's own, from block number lo on. -/
def SlS (w : World) (lo : Nat) (A : Option Addr) (n : Nat) (ss : List ByteArray) : Prop := ss.length = n ∧ (0 < n → ∃ g, A = some ⟨g, 0, none⟩ ∧ lo ≤ g ∧ OwnS w g ss)
def SlW (w : World) (lo : Nat) (A : Option Addr) (n : Nat) (ws : List (Int × ByteArray)) : Prop := ws.length = n ∧ (0 < n → ∃ g, A = some ⟨g, 0, none⟩ ∧ lo ≤ g ∧ OwnW w g ws)
theorem SlS.nil (w : World) (lo : Nat) : SlS w lo none 0 [] := ⟨rfl, fun h => absurd h (by omega)⟩
theorem SlW.nil (w : World) (lo : Nat) : SlW w lo none 0 [] := ⟨rfl, fun h => absurd h (by omega)⟩
theorem SlS.nx {w w' : World} {lo n : Nat} {A : Option Addr} {ss : List ByteArray} (h : SlS w lo A n ss) (hb : Nx w w') : SlS w' lo A n ss :=
  ⟨h.1, fun hn => by obtain ⟨g, e, hl, ho⟩ := h.2 hn; exact ⟨g, e, hl, Own.nx ho hb⟩⟩
theorem SlW.nx {w w' : World} {lo n : Nat} {A : Option Addr} {ws : List (Int × ByteArray)} (h : SlW w lo A n ws) (hb : Nx w w') : SlW w' lo A n ws :=
  ⟨h.1, fun hn => by obtain ⟨g, e, hl, ho⟩ := h.2 hn; exact ⟨g, e, hl, Own.nx ho hb⟩⟩
theorem SlS.low {w : World} {lo lo' n : Nat} {A : Option Addr} {ss : List ByteArray} (h : SlS w lo A n ss) (hl : lo' ≤ lo) : SlS w lo' A n ss :=
  ⟨h.1, fun hn => by obtain ⟨g, e, hl2, ho⟩ := h.2 hn; exact ⟨g, e, Nat.le_trans hl hl2, ho⟩⟩
theorem SlW.low {w : World} {lo lo' n : Nat} {A : Option Addr} {ws : List (Int × ByteArray)} (h : SlW w lo A n ws) (hl : lo' ≤ lo) : SlW w lo' A n ws :=
  ⟨h.1, fun hn => by obtain ⟨g, e, hl2, ho⟩ := h.2 hn; exact ⟨g, e, Nat.le_trans hl hl2, ho⟩⟩
theorem SlS.strs {w : World} {lo n : Nat} {A : Option Addr} {ss : List ByteArray} (h : SlS w lo A n ss) : Strs w w.heap.size A n ss :=
  ⟨h.1, fun hn => by
    obtain ⟨g, e, hl, ho⟩ := h.2 hn
    subst e
    have := Own.row ho (Own.lt ho)
    rw [h.1] at this
    exact this hn⟩
theorem SlW.wrs {w : World} {lo n : Nat} {A : Option Addr} {ws : List (Int × ByteArray)} (h : SlW w lo A n ws) : Wrs w w.heap.size A n ws :=
  ⟨h.1, fun hn => by
    obtain ⟨g, e, hl, ho⟩ := h.2 (by omega)
    subst e
    have := Own.row ho (Own.lt ho)
    rw [h.1] at this
    exact this hn⟩
/-- A slice whose elements lie in a block of the call's own, its number from lo to below hi. -/
def SrS (w : World) (lo hi : Nat) (A : Option Addr) (n : Nat) (ss : List ByteArray) : Prop := ss.length = n ∧ (0 < n → ∃ g, A = some ⟨g, 0, none⟩ ∧ lo ≤ g ∧ g < hi ∧ OwnS w g ss)
def SrW (w : World) (lo hi : Nat) (A : Option Addr) (n : Nat) (ws : List (Int × ByteArray)) : Prop := ws.length = n ∧ (0 < n → ∃ g, A = some ⟨g, 0, none⟩ ∧ lo ≤ g ∧ g < hi ∧ OwnW w g ws)
theorem SlS.sr {w : World} {lo n : Nat} {A : Option Addr} {ss : List ByteArray} (h : SlS w lo A n ss) : SrS w lo w.heap.size A n ss :=
  ⟨h.1, fun hn => by obtain ⟨g, e, hl, ho⟩ := h.2 hn; exact ⟨g, e, hl, Own.lt ho, ho⟩⟩
theorem SlW.sr {w : World} {lo n : Nat} {A : Option Addr} {ws : List (Int × ByteArray)} (h : SlW w lo A n ws) : SrW w lo w.heap.size A n ws :=
  ⟨h.1, fun hn => by obtain ⟨g, e, hl, ho⟩ := h.2 hn; exact ⟨g, e, hl, Own.lt ho, ho⟩⟩
theorem SrS.sl {w : World} {lo hi n : Nat} {A : Option Addr} {ss : List ByteArray} (h : SrS w lo hi A n ss) : SlS w lo A n ss :=
  ⟨h.1, fun hn => by obtain ⟨g, e, hl, _, ho⟩ := h.2 hn; exact ⟨g, e, hl, ho⟩⟩
theorem SrW.sl {w : World} {lo hi n : Nat} {A : Option Addr} {ws : List (Int × ByteArray)} (h : SrW w lo hi A n ws) : SlW w lo A n ws :=
  ⟨h.1, fun hn => by obtain ⟨g, e, hl, _, ho⟩ := h.2 hn; exact ⟨g, e, hl, ho⟩⟩
theorem SrS.rg {w w' : World} {lo hi a b n : Nat} {A : Option Addr} {ss : List ByteArray} (h : SrS w lo hi A n ss) (hb : Rg a b w w') (hd : hi ≤ a ∨ b ≤ lo) : SrS w' lo hi A n ss :=
  ⟨h.1, fun hn => by obtain ⟨g, e, hl, hh, ho⟩ := h.2 hn; exact ⟨g, e, hl, hh, Own.rg ho hb (by omega)⟩⟩
theorem SrW.rg {w w' : World} {lo hi a b n : Nat} {A : Option Addr} {ws : List (Int × ByteArray)} (h : SrW w lo hi A n ws) (hb : Rg a b w w') (hd : hi ≤ a ∨ b ≤ lo) : SrW w' lo hi A n ws :=
  ⟨h.1, fun hn => by obtain ⟨g, e, hl, hh, ho⟩ := h.2 hn; exact ⟨g, e, hl, hh, Own.rg ho hb (by omega)⟩⟩
theorem SrW.ty {w w' : World} {lo hi n : Nat} {A : Option Addr} {ws : List (Int × ByteArray)} (h : SrW w lo hi A n ws) (hb : TyK 9 w w') : SrW w' lo hi A n ws :=
  ⟨h.1, fun hn => by obtain ⟨g, e, hl, hh, ho⟩ := h.2 hn; exact ⟨g, e, hl, hh, hb _ _ _ _ (by decide) ho⟩⟩
theorem SrS.ty {w w' : World} {lo hi n : Nat} {A : Option Addr} {ss : List ByteArray} (h : SrS w lo hi A n ss) (hb : TyK 123 w w') : SrS w' lo hi A n ss :=
  ⟨h.1, fun hn => by obtain ⟨g, e, hl, hh, ho⟩ := h.2 hn; exact ⟨g, e, hl, hh, hb _ _ _ _ (by decide) ho⟩⟩
theorem SrS.nx {w w' : World} {lo hi n : Nat} {A : Option Addr} {ss : List ByteArray} (h : SrS w lo hi A n ss) (hb : Nx w w') : SrS w' lo hi A n ss :=
  ⟨h.1, fun hn => by obtain ⟨g, e, hl, hh, ho⟩ := h.2 hn; exact ⟨g, e, hl, hh, Own.nx ho hb⟩⟩
theorem SrW.nx {w w' : World} {lo hi n : Nat} {A : Option Addr} {ws : List (Int × ByteArray)} (h : SrW w lo hi A n ws) (hb : Nx w w') : SrW w' lo hi A n ws :=
  ⟨h.1, fun hn => by obtain ⟨g, e, hl, hh, ho⟩ := h.2 hn; exact ⟨g, e, hl, hh, Own.nx ho hb⟩⟩
theorem SlS.far {w : World} {lo n : Nat} {A : Option Addr} {ss : List ByteArray} (h : SlS w lo A n ss) {p : Addr} (hp : p.block < lo) (v : Value) : SlS (w.setCell p v) lo A n ss :=
  ⟨h.1, fun hn => by obtain ⟨g, e, hl, ho⟩ := h.2 hn; exact ⟨g, e, hl, Own.far ho (by omega) v⟩⟩
theorem SlW.far {w : World} {lo n : Nat} {A : Option Addr} {ws : List (Int × ByteArray)} (h : SlW w lo A n ws) {p : Addr} (hp : p.block < lo) (v : Value) : SlW (w.setCell p v) lo A n ws :=
  ⟨h.1, fun hn => by obtain ⟨g, e, hl, ho⟩ := h.2 hn; exact ⟨g, e, hl, Own.far ho (by omega) v⟩⟩
/-- What a function leaves that answers a disk in new memory. -/
def RetDisk (w : World) (ss : List ByteArray) (ws : List (Int × ByteArray)) (e : Ending) (w' : World) : Prop :=
  ∃ (A : Option Addr) (n c : Nat) (A2 : Option Addr) (n2 c2 : Nat), e = .returned (.agg #[.slice A n c, .slice A2 n2 c2]) ∧ SlS w' w.heap.size A n ss ∧ SlW w' w.heap.size A2 n2 ws ∧ Nx w w'
def RetDiskCode (w : World) (ss : List ByteArray) (ws : List (Int × ByteArray)) (code : Int) (e : Ending) (w' : World) : Prop :=
  ∃ (A : Option Addr) (n c : Nat) (A2 : Option Addr) (n2 c2 : Nat), e = .returned (.tuple #[.agg #[.slice A n c, .slice A2 n2 c2], .int .i64 code]) ∧ SlS w' w.heap.size A n ss ∧ SlW w' w.heap.size A2 n2 ws ∧ Nx w w'
/-- A result's box that is filled with two slices at the end. -/
theorem fin_box {w u : World} {gr lo lo2 n3 n4 : Nat} {A3 A4 : Option Addr} {v0 v1 : Value} {t : TypeId} {ss : List ByteArray} {ws : List (Int × ByteArray)} (c3 c4 : Nat) (hb : Box u gr t #[v0, v1]) (hS : SlS u lo A3 n3 ss) (hW : SlW u lo2 A4 n4 ws)
    (hlo : gr < lo) (hlo2 : gr < lo2) (hx : Nx w u) (hg : w.heap.size ≤ gr) :
    ((u.setCell ⟨gr, 0, none⟩ (.slice A3 n3 c3)).setCell ⟨gr, 1, none⟩ (.slice A4 n4 c4)).cell? ⟨gr, 0, none⟩ = some (.slice A3 n3 c3) ∧
    ((u.setCell ⟨gr, 0, none⟩ (.slice A3 n3 c3)).setCell ⟨gr, 1, none⟩ (.slice A4 n4 c4)).cell? ⟨gr, 1, none⟩ = some (.slice A4 n4 c4) ∧
    SlS ((u.setCell ⟨gr, 0, none⟩ (.slice A3 n3 c3)).setCell ⟨gr, 1, none⟩ (.slice A4 n4 c4)) w.heap.size A3 n3 ss ∧
    SlW ((u.setCell ⟨gr, 0, none⟩ (.slice A3 n3 c3)).setCell ⟨gr, 1, none⟩ (.slice A4 n4 c4)) w.heap.size A4 n4 ws ∧
    Nx w ((u.setCell ⟨gr, 0, none⟩ (.slice A3 n3 c3)).setCell ⟨gr, 1, none⟩ (.slice A4 n4 c4)) := by
  have q := (hb.set0 (.slice A3 n3 c3)).set1 (.slice A4 n4 c4)
  exact ⟨q.c0, q.c1, ((hS.far (p := ⟨gr, 0, none⟩) hlo _).far (p := ⟨gr, 1, none⟩) hlo _).low (by omega), ((hW.far (p := ⟨gr, 0, none⟩) hlo2 _).far (p := ⟨gr, 1, none⟩) hlo2 _).low (by omega), (hx.setCell (p := ⟨gr, 0, none⟩) hg _).setCell (p := ⟨gr, 1, none⟩) hg _⟩
/-- A disk of the program's in a variable: its slices lie in blocks of the call's own from lo to below hi, the variable's box is block hi. -/
def Dk (w : World) (lo hi : Nat) (A : Option Addr) (n c : Nat) (A2 : Option Addr) (n2 c2 : Nat) (ss : List ByteArray) (ws : List (Int × ByteArray)) : Prop :=
  SrS w lo hi A n ss ∧ SrW w lo hi A2 n2 ws ∧ Box w hi 38 #[.slice A n c, .slice A2 n2 c2]
section
variable {w w' : World} {lo hi : Nat} {A : Option Addr} {n c : Nat} {A2 : Option Addr} {n2 c2 : Nat} {ss : List ByteArray} {ws : List (Int × ByteArray)}
theorem Dk.new (hS : SlS w lo A n ss) (hW : SlW w lo A2 n2 ws) : Dk (w.alloc (.cells #[.slice A n c, .slice A2 n2 c2] 38)) lo w.heap.size A n c A2 n2 c2 ss ws :=
  ⟨hS.sr.nx ((Nx.refl w).alloc _), hW.sr.nx ((Nx.refl w).alloc _), Box.new w _ _⟩
theorem Dk.nx (h : Dk w lo hi A n c A2 n2 c2 ss ws) (hb : Nx w w') : Dk w' lo hi A n c A2 n2 c2 ss ws := ⟨h.1.nx hb, h.2.1.nx hb, h.2.2.nx hb⟩
theorem Dk.rg {a b : Nat} (h : Dk w lo hi A n c A2 n2 c2 ss ws) (hb : Rg a b w w') (hd : hi < a ∨ b ≤ lo) (hlo : lo ≤ hi) : Dk w' lo hi A n c A2 n2 c2 ss ws :=
  ⟨h.1.rg hb (by omega), h.2.1.rg hb (by omega), h.2.2.rg hb (by omega)⟩
theorem Dk.c0 (h : Dk w lo hi A n c A2 n2 c2 ss ws) : w.cell? ⟨hi, 0, none⟩ = some (.slice A n c) := h.2.2.c0
theorem Dk.c1 (h : Dk w lo hi A n c A2 n2 c2 ss ws) : w.cell? ⟨hi, 1, none⟩ = some (.slice A2 n2 c2) := h.2.2.c1
theorem Dk.strs (h : Dk w lo hi A n c A2 n2 c2 ss ws) : Strs w w.heap.size A n ss := h.1.sl.strs
theorem Dk.wrs (h : Dk w lo hi A n c A2 n2 c2 ss ws) : Wrs w w.heap.size A2 n2 ws := h.2.1.sl.wrs
end
theorem OwnS.strs {w : World} {g B : Nat} {ss : List ByteArray} (h : OwnS w g ss) (hB : g < B) : Strs w B (some ⟨g, 0, none⟩) ss.length ss := ⟨rfl, Own.row h hB⟩
theorem OwnW.wrs {w : World} {g B : Nat} {ws : List (Int × ByteArray)} (h : OwnW w g ws) (hB : g < B) : Wrs w B (some ⟨g, 0, none⟩) ws.length ws := ⟨rfl, Own.row h hB⟩
end Go.Proofs.YtehahodomfbpjaaGreatDoor
/- Contracts of the laws' functions that make the program's disks out of the laws' own. Conditions: what is copied can be read, and holds at most 1048576 elements. -/
namespace Go.Proofs.YtehahodomfbpjaaGreatDoor
set_option linter.unusedVariables false
set_option maxRecDepth 100000
open Go.RowKit

theorem info_str : (Tryz.prog.info? 9).map (fun i => (i.zero, i.size, i.bytes)) = some (some (.string ByteArray.empty), 1, 16) := by kernel_rfl
end Go.Proofs.YtehahodomfbpjaaGreatDoor
/- Contracts of the laws' functions that compare disks, where both sides hold the same. Conditions: both sides can be read and are alike. -/
namespace Go.Proofs.YtehahodomfbpjaaGreatDoor
set_option linter.unusedVariables false
set_option maxRecDepth 100000
open Go.RowKit

end Go.Proofs.YtehahodomfbpjaaGreatDoor
/- Contracts of the laws' functions that mark disks and ask whether the marks are still there. Conditions: numbers below 2^40. -/
namespace Go.Proofs.YtehahodomfbpjaaGreatDoor
set_option linter.unusedVariables false
set_option maxRecDepth 100000
open Go.RowKit

/-- The text of one digit. -/
def dg (k : Nat) : ByteArray := strOfNums [48 + (k : Int) % 10]
def mtL (k : Nat) (o : ByteArray) : ByteArray := if h : k = 0 then o else mtL (k / 10) (dg k ++ o)
termination_by k
decreasing_by omega
theorem mtL_zero (o : ByteArray) : mtL 0 o = o := by rw [mtL]; simp
theorem mtL_pos (k : Nat) (o : ByteArray) (h : 0 < k) : mtL k o = mtL (k / 10) (dg k ++ o) := by rw [mtL, dif_neg (by omega)]
/-- The mark of a number. -/
def mt (k : Nat) : ByteArray := if k = 0 then ⟨#[109, 48]⟩ else ⟨#[109]⟩ ++ mtL k ⟨#[]⟩
def MtTo (K k : Nat) (o : ByteArray) : Prop := mtL K ⟨#[]⟩ = mtL k o

theorem MtTo.next_ {K k : Nat} {o : ByteArray} (h : MtTo K k o) (hp : 0 < k) : MtTo K (k / 10) (dg k ++ o) := by
  unfold MtTo at h ⊢; rw [h, mtL_pos k o hp]
theorem MtTo.done {K : Nat} {o : ByteArray} (h : MtTo K 0 o) (hK : 0 < K) : ⟨#[109]⟩ ++ o = mt K := by
  unfold MtTo at h
  unfold mt
  rw [if_neg (by omega), h, mtL_zero]
end Go.Proofs.YtehahodomfbpjaaGreatDoor
/- Contracts of NewDisk, as the model and as the program have it, and the walk of the law FnExactNewDisk. Conditions: none. -/
namespace Go.Proofs.YtehahodomfbpjaaGreatDoor
set_option linter.unusedVariables false
set_option maxRecDepth 100000
open Go.RowKit

def noS : List ByteArray := List.replicate 64 ByteArray.empty
theorem noS_len : noS.length = 64 := by simp [noS]
theorem noS_at {i : Nat} (h : i < 64) : noS.getD i ByteArray.empty = ByteArray.empty := by
  unfold noS; rw [List.getD_eq_getElem?_getD, List.getElem?_replicate, if_pos h]; rfl
theorem made_noS (w : World) : OwnS (w.alloc (.cells (madeCells #[Value.string ByteArray.empty] 64) 9)) w.heap.size noS := by
  unfold OwnS
  rw [noS_len]
  refine (Own.made w #[Value.string ByteArray.empty] 64 9).congr fun i hi => ?_
  unfold strAt
  rw [noS_at hi]
  simp [Nat.mod_one]
theorem make64 (W : World) : (Instr.makeSlice 22 (.int .i64 64) (.int .i64 64)).run Tryz.prog W = .ok (.slice (some ⟨W.heap.size, 0, none⟩) 64 64) (W.alloc (.cells (madeCells #[Value.string ByteArray.empty] 64) 9)) := by
  obtain ⟨i0, hi0, hz0, hz1, hz2⟩ := info_parts info_str
  have hmk := run_make_rowN (P := Tryz.prog) 22 9 i0 _ Tryz.underlying22 hi0 hz0 .i64 .i64 64 64 (Nat.le_refl _) (by rw [hz2]; omega) (by omega) W
  rw [hz1] at hmk
  exact hmk

set_option maxRecDepth 100000 in
set_option maxHeartbeats 1000000 in
theorem implNewDisk_c (w : World) : Calls Tryz.prog 88 #[] w (RetDisk w noS []) := by
  have hmk := make64
  go_enter Tryz.func88, Tryz.ntmps88
  go_wp2
  have ho := made_noS (w.alloc (.cells #[.slice (some ⟨w.heap.size + 1, 0, none⟩) 64 64, .slice none 0 0] 38))
  simp only [World.size_alloc] at ho
  have hx := ((Nx.refl w).alloc (.cells #[.slice (some ⟨w.heap.size + 1, 0, none⟩) 64 64, .slice none 0 0] 38)).alloc (.cells (madeCells #[Value.string ByteArray.empty] 64) 9)
  have q := (Box.new w 38 #[.slice (some ⟨w.heap.size + 1, 0, none⟩) 64 64, .slice none 0 0]).alloc (.cells (madeCells #[Value.string ByteArray.empty] 64) 9)
  have q0 := q.c0
  have q1 := q.c1
  generalize (w.alloc (.cells #[.slice (some ⟨w.heap.size + 1, 0, none⟩) 64 64, .slice none 0 0] 38)).alloc (.cells (madeCells #[Value.string ByteArray.empty] 64) 9) = W at *
  exact bodyPost_ret (v := .agg #[.slice (some ⟨w.heap.size + 1, 0, none⟩) 64 64, .slice none 0 0]) (by simp [results, Tryz.results88, go_sem, q0, q1]) rfl
    ⟨_, 64, 64, none, 0, 0, rfl, ⟨noS_len, fun _ => ⟨_, rfl, by omega, ho⟩⟩, ⟨rfl, fun h => absurd h (by omega)⟩, hx⟩
set_option maxRecDepth 100000 in
set_option maxHeartbeats 1000000 in
theorem specNewDisk_c (w : World) : Calls Tryz.prog 167 #[] w (RetDisk w noS []) := by
  have hmk := make64
  go_enter Tryz.func167, Tryz.ntmps167
  go_wp2
  have ho := Own.alloc (made_noS (w.alloc (.cells #[.slice (some ⟨w.heap.size + 1, 0, none⟩) 64 64, .slice (some ⟨w.heap.size + 1 + 1, 0, none⟩) 0 0] 38))) (.cells #[] 123)
  simp only [World.size_alloc] at ho
  have hx := (((Nx.refl w).alloc (.cells #[.slice (some ⟨w.heap.size + 1, 0, none⟩) 64 64, .slice (some ⟨w.heap.size + 1 + 1, 0, none⟩) 0 0] 38)).alloc (.cells (madeCells #[Value.string ByteArray.empty] 64) 9)).alloc (.cells #[] 123)
  have q := ((Box.new w 38 #[.slice (some ⟨w.heap.size + 1, 0, none⟩) 64 64, .slice (some ⟨w.heap.size + 1 + 1, 0, none⟩) 0 0]).alloc (.cells (madeCells #[Value.string ByteArray.empty] 64) 9)).alloc (.cells #[] 123)
  have q0 := q.c0
  have q1 := q.c1
  generalize ((w.alloc (.cells #[.slice (some ⟨w.heap.size + 1, 0, none⟩) 64 64, .slice (some ⟨w.heap.size + 1 + 1, 0, none⟩) 0 0] 38)).alloc (.cells (madeCells #[Value.string ByteArray.empty] 64) 9)).alloc (.cells #[] 123) = W at *
  exact bodyPost_ret (v := .agg #[.slice (some ⟨w.heap.size + 1, 0, none⟩) 64 64, .slice (some ⟨w.heap.size + 1 + 1, 0, none⟩) 0 0]) (by simp [results, Tryz.results167, go_sem, q0, q1]) rfl
    ⟨_, 64, 64, _, 0, 0, rfl, ⟨noS_len, fun _ => ⟨_, rfl, by omega, ho⟩⟩, ⟨rfl, fun h => absurd h (by omega)⟩, hx⟩

end Go.Proofs.YtehahodomfbpjaaGreatDoor
/- Contracts of FrameOK, as the model and as the program have it: both answer the same bool of every frame. Conditions: none. -/
namespace Go.Proofs.YtehahodomfbpjaaGreatDoor
set_option linter.unusedVariables false
set_option maxRecDepth 100000
open Go.RowKit

/-- A number within its bounds. -/
def inB (lo hi a : Int) : Bool := decide (lo ≤ a) && decide (a ≤ hi)
theorem inB_yes {lo hi a : Int} (h : inB lo hi a = true) : lo ≤ a ∧ a ≤ hi := by
  unfold inB at h; simpa using h
theorem inB_mk {lo hi a : Int} (h1 : lo ≤ a) (h2 : a ≤ hi) : inB lo hi a = true := by
  unfold inB; simp [h1, h2]
theorem inB_no {lo hi a : Int} (h : a < lo ∨ hi < a) : inB lo hi a = false := by
  unfold inB
  rcases h with h | h
  · rw [decide_eq_false (by omega)]; rfl
  · rw [decide_eq_false (p := a ≤ hi) (by omega)]; simp
set_option maxHeartbeats 1000000 in
theorem l01In_c (a lo hi : Int) (w : World) : Calls Tryz.prog 124 #[.int .i64 a, .int .i64 lo, .int .i64 hi] w fun e w' => e = .returned (.bool (inB lo hi a)) ∧ w = w' := by
  go_enter Tryz.func124, Tryz.ntmps124
  go_wp2
  all_goals (go_ret; refine ⟨ret_bool ?_, rfl⟩; unfold inB; rw [Bool.eq_iff_iff]; simp; try omega)
set_option maxHeartbeats 1000000 in
theorem isWithin_c (a lo hi : Int) (w : World) : Calls Tryz.prog 188 #[.int .i64 a, .int .i64 lo, .int .i64 hi] w fun e w' => e = .returned (.bool (inB lo hi a)) ∧ w = w' := by
  go_enter Tryz.func188, Tryz.ntmps188
  go_wp2
  all_goals (go_ret; refine ⟨ret_bool ?_, rfl⟩; unfold inB; rw [Bool.eq_iff_iff]; simp; try omega)
theorem isPosition_c (a : Int) (w : World) : Calls Tryz.prog 149 #[.int .i64 a] w fun e w' => e = .returned (.bool (inB 0 999999 a)) ∧ w = w' := by
  go_enter Tryz.func149, Tryz.ntmps149
  go_wp2_with (go_at_call 188; refine (isWithin_c _ _ _ _).mono ?_; rintro e w' ⟨rfl, rfl⟩)
  go_ret
  exact ⟨rfl, rfl⟩
theorem isTime_c (a : Int) (w : World) : Calls Tryz.prog 152 #[.int .i64 a] w fun e w' => e = .returned (.bool (inB 0 999999 a)) ∧ w = w' := by
  go_enter Tryz.func152, Tryz.ntmps152
  go_wp2_with (go_at_call 188; refine (isWithin_c _ _ _ _).mono ?_; rintro e w' ⟨rfl, rfl⟩)
  go_ret
  exact ⟨rfl, rfl⟩
theorem isValue_c (a : Int) (w : World) : Calls Tryz.prog 151 #[.int .i64 a] w fun e w' => e = .returned (.bool (inB 0 999999 a)) ∧ w = w' := by
  go_enter Tryz.func151, Tryz.ntmps151
  go_wp2_with (go_at_call 188; refine (isWithin_c _ _ _ _).mono ?_; rintro e w' ⟨rfl, rfl⟩)
  go_ret
  exact ⟨rfl, rfl⟩
theorem isBlock_c (a : Int) (w : World) : Calls Tryz.prog 150 #[.int .i64 a] w fun e w' => e = .returned (.bool (inB 0 7 a)) ∧ w = w' := by
  go_enter Tryz.func150, Tryz.ntmps150
  go_wp2_with (go_at_call 188; refine (isWithin_c _ _ _ _).mono ?_; rintro e w' ⟨rfl, rfl⟩)
  go_ret
  exact ⟨rfl, rfl⟩

end Go.Proofs.YtehahodomfbpjaaGreatDoor
/- Words on lists of ints in memory; contracts of the laws' functions on lists of ints, and of ContentOK, as the model and as the program have it. Conditions: what is read can be read, and holds at most 1048576 elements. -/
namespace Go.Proofs.YtehahodomfbpjaaGreatDoor
set_option linter.unusedVariables false
set_option maxRecDepth 100000
open Go.RowKit

def inAt (xs : List Int) (i : Nat) : Value := .int .i64 (xs.getD i 0)
/-- A list of ints that is read. -/
def Ins (w : World) (B : Nat) (A : Option Addr) (xs : List Int) : Prop := Row w B A xs.length (inAt xs)
theorem Ins.below {w w' : World} {B B' : Nat} {A : Option Addr} {xs : List Int} (h : Ins w B A xs) (hb : Below B' w w') (hB : B ≤ B') : Ins w' B A xs := Row.below h hb hB
theorem Ins.more {w : World} {B B' : Nat} {A : Option Addr} {xs : List Int} (h : Ins w B A xs) (hB : B ≤ B') : Ins w B' A xs := Row.more h hB
theorem Ins.at_ {w : World} {B k : Nat} {A : Option Addr} {xs : List Int} (h : Ins w B A xs) (hk : k < xs.length) :
    ∃ b off, A = some ⟨b, off, none⟩ ∧ b < B ∧ w.cell? ⟨b, off + k, none⟩ = some (.int .i64 (xs.getD k 0)) := by
  obtain ⟨b, off, e, hb, hc⟩ := h (by omega)
  exact ⟨b, off, e, hb, hc k hk⟩
/-- A list of ints in a block of the call's own. -/
abbrev SlI (w : World) (lo : Nat) (A : Option Addr) (xs : List Int) : Prop := Sl w lo A 3 xs.length (inAt xs)
def RetI (w : World) (xs : List Int) (e : Ending) (w' : World) : Prop := ∃ (A : Option Addr) (c : Nat), e = .returned (.slice A xs.length c) ∧ SlI w' w.heap.size A xs ∧ Nx w w'
theorem info_int : (Tryz.prog.info? 3).map (fun i => (i.zero, i.size, i.bytes)) = some (some (.int .i64 0), 1, 8) := by kernel_rfl

def mkAt (k i : Nat) : Value := .int .i64 ((k + i : Nat) : Int)
/-- What a content is. -/
def contB (xs : List Int) : Bool := decide (xs.length = 8) && xs.all (inB 0 999999)
def InTo (xs : List Int) (k : Nat) : Prop := ∀ j, j < k → inB 0 999999 (xs.getD j 0) = true
theorem InTo.zero (xs : List Int) : InTo xs 0 := fun j h => absurd h (by omega)
theorem InTo.succ {xs : List Int} {k : Nat} (h : InTo xs k) (hk : inB 0 999999 (xs.getD k 0) = true) : InTo xs (k + 1) := fun j hj => by
  rcases Nat.lt_or_ge j k with hlt | hge
  · exact h j hlt
  · obtain rfl : j = k := by omega
    exact hk
theorem InTo.all {xs : List Int} (h : InTo xs xs.length) : xs.all (inB 0 999999) = true := List.all_eq_true.2 fun x hx => by
  obtain ⟨j, hj, rfl⟩ := List.mem_iff_getElem.1 hx
  have := h j hj
  rwa [List.getD_eq_getElem?_getD, List.getElem?_eq_getElem hj] at this
theorem contB_no {xs : List Int} {k : Nat} (hk : k < xs.length) (h : inB 0 999999 (xs.getD k 0) = false) : contB xs = false := by
  unfold contB
  rw [show xs.all (inB 0 999999) = false from List.all_eq_false.2 ⟨xs[k], List.getElem_mem _, by rw [List.getD_eq_getElem?_getD, List.getElem?_eq_getElem hk] at h; simp only [Option.getD_some] at h; simp [h]⟩]
  simp
theorem contB_len {xs : List Int} (h : xs.length ≠ 8) : contB xs = false := by unfold contB; rw [decide_eq_false h]; rfl
theorem contB_mk {xs : List Int} (h : xs.length = 8) (h2 : InTo xs xs.length) : contB xs = true := by unfold contB; rw [decide_eq_true h, h2.all]; rfl
theorem contB_yes {xs : List Int} (h : contB xs = true) : xs.length = 8 ∧ ∀ k, k < 8 → 0 ≤ xs.getD k 0 ∧ xs.getD k 0 ≤ 999999 := by
  unfold contB at h
  simp only [Bool.and_eq_true, decide_eq_true_eq, List.all_eq_true] at h
  refine ⟨h.1, fun k hk => inB_yes ?_⟩
  have hk' : k < xs.length := by omega
  rw [List.getD_eq_getElem?_getD, List.getElem?_eq_getElem hk']
  exact h.2 _ (List.getElem_mem _)
end Go.Proofs.YtehahodomfbpjaaGreatDoor
