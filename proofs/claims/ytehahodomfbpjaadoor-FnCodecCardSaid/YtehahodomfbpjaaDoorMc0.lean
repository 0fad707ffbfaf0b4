/-
  Texts of the proof, put together in their order: Core, Src, Op8, Frm.
  Conditions: those of each.
-/
import Derived.Test.YtehahodomfbpjaaDoorRows
import Derived.WalkKit
import Derived.ProofKit
import Derived.OpenShut
import Derived.ShutString
import Derived.WalkSpells
import Derived.Lib.Hide
import Derived.Below
import Derived.Laws.OwnMore
import Derived.Deep.Draws
import Derived.Laws.Rows
import Derived.Laws.MakeOwn
import Derived.Laws.Entries
import Derived.OwnWalk
import Derived.Deep.QuietTactic
import Derived.BigQuiet
import Derived.Deep.Slices
import Derived.ChangeSame
import Derived.StillTailTactics
import Derived.IntWalk
import Derived.Deep.RegionHeld
import Derived.Outline
/- Words on memory for the texts of this seat: blocks of the call's own, blocks that are known whole, what a size is, and how these facts go on from world to world. Conditions: none. -/
namespace Go.Proofs.YtehahodomfbpjaaDoor
set_option linter.unusedVariables false
set_option maxRecDepth 100000
open Go.RowKit

theorem ret_bool {a b : Bool} (h : a = b) : Ending.returned (.bool a) = .returned (.bool b) := by rw [h]
theorem ret_int {a b : Int} (h : a = b) : Ending.returned (.int .i64 a) = .returned (.int .i64 b) := by rw [h]

/-- Nothing that was there has turned. -/
abbrev Nx (w w' : World) : Prop := Below w.heap.size w w'
theorem Nx.refl (w : World) : Nx w w := Below.refl _ _
theorem Nx.trans {a b c : World} (h : Nx a b) (k : Nx b c) : Nx a c := Below.trans h (Below.mono k h.size)
theorem Nx.alloc {a w : World} (h : Nx a w) (o : Obj) : Nx a (w.alloc o) := Below.alloc h h.size o
theorem Nx.drew {a w : World} (h : Nx a w) : Nx a w.drew := ⟨h.os, h.tape, h.output, h.size, h.block⟩
theorem Nx.drewN {a w : World} (h : Nx a w) (n : Nat) : Nx a (w.drewN n) := ⟨h.os, h.tape, h.output, h.size, h.block⟩
theorem Nx.drew_r {a w : World} (h : Nx a.drew w) : Nx a w := ⟨h.os, h.tape, h.output, h.size, h.block⟩

/-- The cells from an address on, in a block below B. -/
def Row (w : World) (B : Nat) (A : Option Addr) (m : Nat) (f : Nat → Value) : Prop :=
  0 < m → ∃ b off, A = some ⟨b, off, none⟩ ∧ b < B ∧ ∀ i, i < m → w.cell? ⟨b, off + i, none⟩ = some (f i)
theorem Row.keep {w w' : World} {B m : Nat} {A : Option Addr} {f : Nat → Value} (h : Row w B A m f) (hk : ∀ p : Addr, p.block < B → w'.cell? p = w.cell? p) : Row w' B A m f := fun hm => by
  obtain ⟨b, off, e, hb, hc⟩ := h hm
  exact ⟨b, off, e, hb, fun i hi => (hk _ hb).trans (hc i hi)⟩
theorem Row.more {w : World} {B B' m : Nat} {A : Option Addr} {f : Nat → Value} (h : Row w B A m f) (hB : B ≤ B') : Row w B' A m f := fun hm => by
  obtain ⟨b, off, e, hb, hc⟩ := h hm
  exact ⟨b, off, e, by omega, hc⟩
theorem Row.below {w w' : World} {B B' m : Nat} {A : Option Addr} {f : Nat → Value} (h : Row w B A m f) (hb : Below B' w w') (hB : B ≤ B') : Row w' B A m f := h.keep fun _ hp => hb.cell (by omega)

/-- A slice of bools that is read. -/
def blAt (bs : List Bool) (i : Nat) : Value := .bool (bs.getD i false)
def Bls (w : World) (B : Nat) (A : Option Addr) (n : Nat) (bs : List Bool) : Prop := bs.length = n ∧ Row w B A n (blAt bs)
theorem Bls.below {w w' : World} {B B' n : Nat} {A : Option Addr} {bs : List Bool} (h : Bls w B A n bs) (hb : Below B' w w') (hB : B ≤ B') : Bls w' B A n bs := ⟨h.1, h.2.below hb hB⟩
theorem Bls.more {w : World} {B B' n : Nat} {A : Option Addr} {bs : List Bool} (h : Bls w B A n bs) (hB : B ≤ B') : Bls w B' A n bs := ⟨h.1, h.2.more hB⟩
theorem Bls.at_ {w : World} {B n k : Nat} {A : Option Addr} {bs : List Bool} (h : Bls w B A n bs) (hk : k < n) :
    ∃ b off, A = some ⟨b, off, none⟩ ∧ b < B ∧ w.cell? ⟨b, off + k, none⟩ = some (.bool (bs.getD k false)) := by
  obtain ⟨b, off, e, hb, hc⟩ := h.2 (by omega)
  exact ⟨b, off, e, hb, hc k hk⟩
/-- A block of the call's own, known whole, none of it frozen: its first m cells are f. -/
def Own (w : World) (g : Nat) (t : TypeId) (m : Nat) (f : Nat → Value) : Prop :=
  ∃ cs : Array Value, w.heap[g]? = some (.cells cs t (0, 0)) ∧ m ≤ cs.size ∧ ∀ i, i < m → cs[i]? = some (f i)
section
variable {w w' : World} {g : Nat} {t : TypeId} {m : Nat} {f : Nat → Value}
theorem Own.lt (h : Own w g t m f) : g < w.heap.size := by
  obtain ⟨cs, h, _⟩ := h
  rcases Nat.lt_or_ge g w.heap.size with hlt | hge
  · exact hlt
  · rw [Array.getElem?_eq_none hge] at h; cases h
theorem Own.cell (h : Own w g t m f) {i : Nat} (hi : i < m) : w.cell? ⟨g, i, none⟩ = some (f i) := by
  obtain ⟨cs, h, _, hc⟩ := h
  exact (cell_of_row w g i cs t (0, 0) h).trans (hc i hi)
theorem Own.frozen (h : Own w g t m f) (i : Nat) : w.frozen? ⟨g, i, none⟩ = false := by
  obtain ⟨cs, h, _⟩ := h
  simp [World.frozen?, h]
theorem Own.of_block (h : Own w g t m f) (hb : w'.heap[g]? = w.heap[g]?) : Own w' g t m f := by
  obtain ⟨cs, h, r⟩ := h
  exact ⟨cs, hb.trans h, r⟩
theorem Own.below {B : Nat} (h : Own w g t m f) (hb : Below B w w') (hg : g < B) : Own w' g t m f := h.of_block (hb.block g hg)
theorem Own.nx (h : Own w g t m f) (hb : Nx w w') : Own w' g t m f := h.of_block (hb.block g h.lt)
theorem Own.row (h : Own w g t m f) {B : Nat} (hB : g < B) : Row w B (some ⟨g, 0, none⟩) m f := fun _ =>
  ⟨g, 0, rfl, hB, fun i hi => by rw [Nat.zero_add]; exact h.cell hi⟩
theorem Own.set (h : Own w g t m f) {k : Nat} (hk : k < m) (v : Value) : Own (w.setCell ⟨g, k, none⟩ v) g t m (fun i => if i = k then v else f i) := by
  obtain ⟨cs, h, hm, hc⟩ := h
  refine ⟨cs.setIfInBounds k v, ?_, by simpa using hm, fun i hi => ?_⟩
  · simp [World.setCell, Array.getElem?_modify, h]
  · rw [Array.getElem?_setIfInBounds]
    by_cases e : k = i
    · subst e; rw [if_pos rfl, if_pos (by omega)]; simp
    · rw [if_neg e, hc i hi]; show some (f i) = some (if i = k then v else f i); rw [if_neg (fun h : i = k => e h.symm)]
theorem Own.far (h : Own w g t m f) {p : Addr} (hp : g ≠ p.block) (v : Value) : Own (w.setCell p v) g t m f := h.of_block (Below.heap_setCell w p v g hp)
theorem Own.alloc (h : Own w g t m f) (o : Obj) : Own (w.alloc o) g t m f := h.of_block (Below.heap_alloc w o g h.lt)
theorem Own.drewN (h : Own w g t m f) (n : Nat) : Own (w.drewN n) g t m f := h
theorem Own.congr {f' : Nat → Value} (h : Own w g t m f) (hf : ∀ i, i < m → f i = f' i) : Own w g t m f' := by
  obtain ⟨cs, h, hm, hc⟩ := h
  exact ⟨cs, h, hm, fun i hi => by rw [← hf i hi]; exact hc i hi⟩
end
/-- A block of the call's own that is being filled: its first k cells are F already. -/
def Fill (w : World) (g : Nat) (t : TypeId) (m k : Nat) (F : Nat → Value) : Prop := ∃ f, Own w g t m f ∧ ∀ i, i < k → f i = F i
section
variable {w w' : World} {g : Nat} {t : TypeId} {m k : Nat} {f F : Nat → Value}
theorem Fill.lt (h : Fill w g t m k F) : g < w.heap.size := by
  obtain ⟨f, h, _⟩ := h; exact h.lt
theorem Fill.frozen (h : Fill w g t m k F) (i : Nat) : w.frozen? ⟨g, i, none⟩ = false := by
  obtain ⟨f, h, _⟩ := h; exact h.frozen i
theorem Fill.step (h : Fill w g t m k F) (hk : k < m) {v : Value} (hv : v = F k) : Fill (w.setCell ⟨g, k, none⟩ v) g t m (k + 1) F := by
  obtain ⟨f, h, hf⟩ := h
  refine ⟨_, h.set hk v, fun i hi => ?_⟩
  by_cases e : i = k
  · subst e; simp [hv]
  · simp only [if_neg e]; exact hf i (by omega)
theorem Fill.done (h : Fill w g t m m F) : Own w g t m F := by
  obtain ⟨f, h, hf⟩ := h; exact h.congr hf
theorem Fill.nx (h : Fill w g t m k F) (hb : Nx w w') : Fill w' g t m k F := by
  obtain ⟨f, h, hf⟩ := h; exact ⟨f, h.nx hb, hf⟩
theorem Nx.setCell {a w : World} (h : Nx a w) {p : Addr} (hp : a.heap.size ≤ p.block) (v : Value) : Nx a (w.setCell p v) := Below.setCell h hp v
end
theorem Own.made (w : World) (z : Array Value) (n : Nat) (t : TypeId) : Own (w.alloc (.cells (madeCells z n) t)) w.heap.size t n (fun i => z[i % z.size]!) :=
  ⟨_, heap_alloc_new w _, by rw [size_madeCells]; exact Nat.le_refl _, fun i hi => by simp [madeCells, hi]⟩
theorem run_make_rowN {P : Program} (t e : TypeId) (i : TypeInfo) (z : Value) (ht : P.underlying t = some (.slice e)) (hi : P.info? e = some i) (hz : i.zero = some z)
    (kl kc : IntKind) (n c : Nat) (hnc : n ≤ c) (hbytes : i.bytes * c ≤ 281474976710656) (h63 : c ≤ 9223372036854775807) (w : World) :
    (Instr.makeSlice t (.int kl (n : Int)) (.int kc (c : Int))).run P w = .ok (.slice (some ⟨w.heap.size, 0, none⟩) n c) (w.alloc (.cells (madeCells z.cells (c * i.size)) e)) := by
  have hb : (i.bytes : Int) * (c : Int) ≤ 281474976710656 := by
    have h : ((i.bytes * c : Nat) : Int) ≤ 281474976710656 := by omega
    rwa [Int.natCast_mul] at h
  have hr := run_make (P := P) w t e i z ht hi hz kl kc n c (by omega) (by omega) hb (by omega)
  simp only [Int.toNat_natCast] at hr
  exact hr
/-- Of what was there nothing has turned but, perhaps, the blocks from lo to below hi. -/
structure Rg (lo hi : Nat) (w w' : World) : Prop where
  os : w'.os = w.os
  tape : w'.tape = w.tape
  output : w'.output = w.output
  size : w.heap.size ≤ w'.heap.size
  block : ∀ k, k < w.heap.size → (k < lo ∨ hi ≤ k) → w'.heap[k]? = w.heap[k]?
theorem Rg.of_nx {lo hi : Nat} {w w' : World} (h : Nx w w') : Rg lo hi w w' := ⟨h.os, h.tape, h.output, h.size, fun k hk _ => h.block k hk⟩
theorem Rg.trans {lo hi : Nat} {a b c : World} (h : Rg lo hi a b) (k : Rg lo hi b c) : Rg lo hi a c :=
  ⟨k.os.trans h.os, k.tape.trans h.tape, k.output.trans h.output, Nat.le_trans h.size k.size, fun i hi' hr => (k.block i (Nat.lt_of_lt_of_le hi' h.size) hr).trans (h.block i hi' hr)⟩
theorem Rg.setCell {lo hi : Nat} {a w : World} (h : Rg lo hi a w) {p : Addr} (h1 : lo ≤ p.block) (h2 : p.block < hi) (v : Value) : Rg lo hi a (w.setCell p v) :=
  h.trans ⟨rfl, rfl, rfl, by simp [World.setCell], fun k _ hr => Below.heap_setCell _ _ _ _ (by omega)⟩
theorem Rg.below {lo hi : Nat} {w w' : World} (h : Rg lo hi w w') (hB : lo ≤ w.heap.size) : Below lo w w' := ⟨h.os, h.tape, h.output, h.size, fun k hk => h.block k (by omega) (.inl hk)⟩
theorem Rg.nx_of {lo hi : Nat} {a w w' : World} (h : Nx a w) (k : Rg lo hi w w') (hl : a.heap.size ≤ lo) : Nx a w' :=
  ⟨k.os.trans h.os, k.tape.trans h.tape, k.output.trans h.output, Nat.le_trans h.size k.size, fun i hi' => (k.block i (Nat.lt_of_lt_of_le hi' h.size) (.inl (by omega))).trans (h.block i hi')⟩
theorem Own.rg {lo hi : Nat} {w w' : World} {g : Nat} {t : TypeId} {m : Nat} {f : Nat → Value} (h : Own w g t m f) (hb : Rg lo hi w w') (hg : g < lo ∨ hi ≤ g) : Own w' g t m f := h.of_block (hb.block g h.lt hg)
/-- Blocks of the call's own that hold another type than t have not turned. -/
def TyK (t : TypeId) (w w' : World) : Prop := ∀ g t' m f, t' ≠ t → Own w g t' m f → Own w' g t' m f
theorem TyK.refl (t : TypeId) (w : World) : TyK t w w := fun _ _ _ _ _ h => h
theorem TyK.nx {t : TypeId} {a w w' : World} (h : TyK t a w) (hb : Nx w w') : TyK t a w' := fun g t' m f hne ho => (h g t' m f hne ho).nx hb
theorem Own.ne_type {w : World} {g g' : Nat} {t t' : TypeId} {m m' : Nat} {f f' : Nat → Value} (h : Own w g t m f) (h' : Own w g' t' m' f') (hne : t' ≠ t) : g' ≠ g := by
  rintro rfl
  obtain ⟨cs, h, _⟩ := h
  obtain ⟨cs', h', _⟩ := h'
  rw [h] at h'
  injection h' with h'
  injection h' with _ ht
  exact hne ht.symm
theorem TyK.set {t : TypeId} {a w : World} (h : TyK t a w) {g i m : Nat} {f : Nat → Value} (ho : Own w g t m f) (v : Value) : TyK t a (w.setCell ⟨g, i, none⟩ v) := fun g' t' m' f' hne h' =>
  (h g' t' m' f' hne h').far (Own.ne_type ho (h g' t' m' f' hne h') hne) v
/-- A block that is known whole. -/
def Box (w : World) (g : Nat) (t : TypeId) (cs : Array Value) : Prop := w.heap[g]? = some (.cells cs t (0, 0))
section
variable {w w' : World} {g : Nat} {t : TypeId} {cs : Array Value} {v0 v1 : Value}
theorem Box.lt (h : Box w g t cs) : g < w.heap.size := by
  rcases Nat.lt_or_ge g w.heap.size with hlt | hge
  · exact hlt
  · unfold Box at h; rw [Array.getElem?_eq_none hge] at h; cases h
theorem Box.new (w : World) (t : TypeId) (cs : Array Value) : Box (w.alloc (.cells cs t)) w.heap.size t cs := heap_alloc_new w _
theorem Box.alloc (h : Box w g t cs) (o : Obj) : Box (w.alloc o) g t cs := (Below.heap_alloc w o g h.lt).trans h
theorem Box.nx (h : Box w g t cs) (hb : Nx w w') : Box w' g t cs := (hb.block g h.lt).trans h
theorem Box.rg {lo hi : Nat} (h : Box w g t cs) (hb : Rg lo hi w w') (hg : g < lo ∨ hi ≤ g) : Box w' g t cs := (hb.block g h.lt hg).trans h
theorem Box.grown {row : Option Nat} (h : Box w g t cs) (hb : w.grownBy w' row) (hg : some g ≠ row) : Box w' g t cs := (hb.block g h.lt hg).trans h
theorem Box.far (h : Box w g t cs) {p : Addr} (hp : g ≠ p.block) (u : Value) : Box (w.setCell p u) g t cs := (Below.heap_setCell w p u g hp).trans h
theorem Box.cell (h : Box w g t cs) (i : Nat) : w.cell? ⟨g, i, none⟩ = cs[i]? := cell_of_row w g i cs t (0, 0) h
theorem Box.frozen (h : Box w g t cs) (i : Nat) : w.frozen? ⟨g, i, none⟩ = false := by
  unfold Box at h
  simp [World.frozen?, h]
theorem Box.c0 (h : Box w g t #[v0, v1]) : w.cell? ⟨g, 0, none⟩ = some v0 := h.cell 0
theorem Box.c1 (h : Box w g t #[v0, v1]) : w.cell? ⟨g, 1, none⟩ = some v1 := h.cell 1
theorem Box.set0 (h : Box w g t #[v0, v1]) (u : Value) : Box (w.setCell ⟨g, 0, none⟩ u) g t #[u, v1] := by
  unfold Box at h ⊢
  simp [World.setCell, Array.getElem?_modify, h]
end
/-- A slice's m cells lie in a block of the call's own, from block number lo on. -/
def Sl (w : World) (lo : Nat) (A : Option Addr) (t : TypeId) (m : Nat) (f : Nat → Value) : Prop := 0 < m → ∃ g, A = some ⟨g, 0, none⟩ ∧ lo ≤ g ∧ Own w g t m f
/-- .. its number from lo to below hi. -/
def Sr (w : World) (lo hi : Nat) (A : Option Addr) (t : TypeId) (m : Nat) (f : Nat → Value) : Prop := 0 < m → ∃ g, A = some ⟨g, 0, none⟩ ∧ lo ≤ g ∧ g < hi ∧ Own w g t m f
section
variable {w w' : World} {lo lo' hi : Nat} {A : Option Addr} {t : TypeId} {m : Nat} {f : Nat → Value}
theorem Sl.nx (h : Sl w lo A t m f) (hb : Nx w w') : Sl w' lo A t m f := fun hm => by
  obtain ⟨g, e, hl, ho⟩ := h hm; exact ⟨g, e, hl, ho.nx hb⟩
theorem Sl.low (h : Sl w lo A t m f) (hl : lo' ≤ lo) : Sl w lo' A t m f := fun hm => by
  obtain ⟨g, e, hl2, ho⟩ := h hm; exact ⟨g, e, Nat.le_trans hl hl2, ho⟩
theorem Sl.row (h : Sl w lo A t m f) : Row w w.heap.size A m f := fun hm => by
  obtain ⟨g, e, hl, ho⟩ := h hm; subst e; exact ho.row ho.lt hm
theorem Sl.own {g : Nat} (h : Own w g t m f) (hg : lo ≤ g) : Sl w lo (some ⟨g, 0, none⟩) t m f := fun _ => ⟨g, rfl, hg, h⟩
theorem Sl.far (h : Sl w lo A t m f) {p : Addr} (hp : p.block < lo) (v : Value) : Sl (w.setCell p v) lo A t m f := fun hm => by
  obtain ⟨g, e, hl, ho⟩ := h hm; exact ⟨g, e, hl, ho.far (by omega) v⟩
theorem Sr.nx (h : Sr w lo hi A t m f) (hb : Nx w w') : Sr w' lo hi A t m f := fun hm => by
  obtain ⟨g, e, hl, hh, ho⟩ := h hm; exact ⟨g, e, hl, hh, ho.nx hb⟩
theorem Sr.rg {a b : Nat} (h : Sr w lo hi A t m f) (hb : Rg a b w w') (hd : hi ≤ a ∨ b ≤ lo) : Sr w' lo hi A t m f := fun hm => by
  obtain ⟨g, e, hl, hh, ho⟩ := h hm; exact ⟨g, e, hl, hh, ho.rg hb (by omega)⟩
end
theorem Box.set {w : World} {g : Nat} {t : TypeId} {cs : Array Value} (h : Box w g t cs) (i : Nat) (u : Value) : Box (w.setCell ⟨g, i, none⟩ u) g t (cs.setIfInBounds i u) := by
  unfold Box at h ⊢
  simp [World.setCell, Array.getElem?_modify, h]
/-- A result's box of four cells, filled at the end. -/
def put4 (u : World) (g : Nat) (v0 v1 v2 v3 : Value) : World := (((u.setCell ⟨g, 0, none⟩ v0).setCell ⟨g, 1, none⟩ v1).setCell ⟨g, 2, none⟩ v2).setCell ⟨g, 3, none⟩ v3
theorem put4_box {u : World} {g : Nat} {t : TypeId} {a b c d : Value} (hb : Box u g t #[a, b, c, d]) (v0 v1 v2 v3 : Value) : Box (put4 u g v0 v1 v2 v3) g t #[v0, v1, v2, v3] :=
  (((hb.set 0 v0).set 1 v1).set 2 v2).set 3 v3
theorem put4_nx {w u : World} {g : Nat} (hx : Nx w u) (hg : w.heap.size ≤ g) (v0 v1 v2 v3 : Value) : Nx w (put4 u g v0 v1 v2 v3) :=
  (((hx.setCell (p := ⟨g, 0, none⟩) hg v0).setCell (p := ⟨g, 1, none⟩) hg v1).setCell (p := ⟨g, 2, none⟩) hg v2).setCell (p := ⟨g, 3, none⟩) hg v3
theorem Box.d3 {w : World} {g : Nat} {t : TypeId} {v0 v1 v2 : Value} (h : Box w g t #[v0, v1, v2]) : w.cell? ⟨g, 0, none⟩ = some v0 ∧ w.cell? ⟨g, 1, none⟩ = some v1 ∧ w.cell? ⟨g, 2, none⟩ = some v2 :=
  ⟨h.cell 0, h.cell 1, h.cell 2⟩
theorem Box.d4 {w : World} {g : Nat} {t : TypeId} {v0 v1 v2 v3 : Value} (h : Box w g t #[v0, v1, v2, v3]) : w.cell? ⟨g, 0, none⟩ = some v0 ∧ w.cell? ⟨g, 1, none⟩ = some v1 ∧ w.cell? ⟨g, 2, none⟩ = some v2 ∧ w.cell? ⟨g, 3, none⟩ = some v3 :=
  ⟨h.cell 0, h.cell 1, h.cell 2, h.cell 3⟩
end Go.Proofs.YtehahodomfbpjaaDoor
/- Contracts of the model's source of choices: a byte, one of n, a chance; what it leaves is its own block alone. Conditions: the code can be read, and holds at most 1048576 bytes. -/
namespace Go.Proofs.YtehahodomfbpjaaDoor
set_option linter.unusedVariables false
set_option maxRecDepth 100000
open Go.ChangeShapes Go.WideShapes Go.RowKit Go.Deep

/-- A slice of bytes that is read. -/
def u8At (ys : List Nat) (i : Nat) : Value := .int .u8 ((ys.getD i 0 : Nat) : Int)
def U8s (w : World) (B : Nat) (A : Option Addr) (n : Nat) (ys : List Nat) : Prop := ys.length = n ∧ (∀ i, ys.getD i 0 < 256) ∧ Row w B A n (u8At ys)
section
variable {w w' : World} {B B' n : Nat} {A : Option Addr} {ys : List Nat}
theorem U8s.below (h : U8s w B A n ys) (hb : Below B' w w') (hB : B ≤ B') : U8s w' B A n ys := ⟨h.1, h.2.1, h.2.2.below hb hB⟩
theorem U8s.more (h : U8s w B A n ys) (hB : B ≤ B') : U8s w B' A n ys := ⟨h.1, h.2.1, h.2.2.more hB⟩
theorem U8s.rg {lo hi : Nat} (h : U8s w B A n ys) (hb : Rg lo hi w w') (hB : B ≤ lo) (hl : lo ≤ w.heap.size) : U8s w' B A n ys := h.below (hb.below hl) hB
theorem U8s.at_ {k : Nat} (h : U8s w B A n ys) (hk : k < n) : ∃ b off, A = some ⟨b, off, none⟩ ∧ b < B ∧ w.cell? ⟨b, off + k, none⟩ = some (.int .u8 ((ys.getD k 0 : Nat) : Int)) := by
  obtain ⟨b, off, e, hb, hc⟩ := h.2.2 (by omega)
  exact ⟨b, off, e, hb, hc k hk⟩
end
section
variable {w : World} {g : Nat} {t : TypeId} {v0 v1 v2 : Value}
theorem Box.d0 (h : Box w g t #[v0, v1, v2]) : w.cell? ⟨g, 0, none⟩ = some v0 := h.cell 0
theorem Box.d1 (h : Box w g t #[v0, v1, v2]) : w.cell? ⟨g, 1, none⟩ = some v1 := h.cell 1
theorem Box.d2 (h : Box w g t #[v0, v1, v2]) : w.cell? ⟨g, 2, none⟩ = some v2 := h.cell 2
theorem Box.put1 (h : Box w g t #[v0, v1, v2]) (u : Value) : Box (w.setCell ⟨g, 1, none⟩ u) g t #[v0, u, v2] := by
  unfold Box at h ⊢
  simp [World.setCell, Array.getElem?_modify, h]
theorem Box.put2 (h : Box w g t #[v0, v1, v2]) (u : Value) : Box (w.setCell ⟨g, 2, none⟩ u) g t #[v0, v1, u] := by
  unfold Box at h ⊢
  simp [World.setCell, Array.getElem?_modify, h]
end

/-- A byte of a source: what it is, and the source's state then. -/
def byteP (ys : List Nat) (a sd : Nat) : Nat × Nat × Nat :=
  if a + 1 ≤ ys.length then (ys.getD a 0, a + 1, (sd * 31 + ys.getD a 0 + 7) % 2147483648)
  else if 3000 < a + 1 then (0, a + 1, sd)
  else ((sd * 1103515245 + 12345) % 2147483648 / 65536 % 256, a + 1, (sd * 1103515245 + 12345) % 2147483648)
theorem byteP_lt {ys : List Nat} {a sd b a' sd' : Nat} (hy : ∀ i, ys.getD i 0 < 256) (hs : sd < 2147483648) (h : byteP ys a sd = (b, a', sd')) : b < 256 ∧ a' = a + 1 ∧ sd' < 2147483648 := by
  unfold byteP at h
  have := hy a
  split at h
  · cases h; omega
  · split at h <;> cases h <;> omega
def Src (w : World) (g : Nat) (A : Option Addr) (n c a sd : Nat) : Prop := Box w g 101 #[.slice A n c, .int .i64 a, .int .i64 sd]

set_option maxRecDepth 100000 in
set_option maxHeartbeats 1000000 in
theorem byte_c (g : Nat) (A : Option Addr) (n c a sd B : Nat) (ys : List Nat) (b a' sd' : Nat) (w : World) (hb : Src w g A n c a sd) (h : U8s w B A n ys) (hB : B ≤ g) (hn : n ≤ 1048576) (ha : a ≤ 1048576) (hs : sd < 2147483648)
    (HP : byteP ys a sd = (b, a', sd')) :
    Calls Tryd.prog 84 #[.pointer (some ⟨g, 0, none⟩)] w fun e w' => e = .returned (.int .i64 b) ∧ Src w' g A n c a' sd' ∧ Rg g (g + 1) w w' := by
  unfold Src at *
  have c0 := hb.d0
  have c1 := hb.d1
  have c2 := hb.d2
  have f1 := hb.frozen 1
  have f2 := hb.frozen 2
  have hr1 := (Rg.of_nx (lo := g) (hi := g + 1) (Nx.refl w)).setCell (p := ⟨g, 1, none⟩) (Nat.le_refl _) (Nat.lt_succ_self _) (.int .i64 ((a : Int) + 1))
  have hbs := hb.put1 (.int .i64 ((a : Int) + 1))
  have h1 := h.rg hr1 hB (Nat.le_of_lt hb.lt)
  go_enter Tryd.func84, Tryd.ntmps84
  go_wp2
  generalize w.setCell ⟨g, 1, none⟩ (.int .i64 ((a : Int) + 1)) = w1 at *
  clear c0 c1 c2 f1 f2 h
  have c0 := hbs.d0
  have c1 := hbs.d1
  have c2 := hbs.d2
  have f2 := hbs.frozen 2
  by_cases hlt : a < n
  · obtain ⟨b0, off, rfl, hb0, hc⟩ := h1.at_ hlt
    unfold byteP at HP
    rw [if_pos (by rw [h1.1]; omega)] at HP
    have hy := h1.2.1 a
    generalize ys.getD a 0 = y at *
    cases HP
    go_quiet (fail)
    have hr2 : Rg g (g + 1) w (w1.drewN nq) := hr1.trans (Rg.of_nx ((Nx.refl w1).drewN nq))
    have hb2 : Box (w1.drewN nq) g 101 #[.slice (some ⟨b0, off, none⟩) n c, .int .i64 ((a : Int) + 1), .int .i64 sd] := hbs
    have hc2 : (w1.drewN nq).cell? ⟨b0, off + a, none⟩ = some (.int .u8 (b : Int)) := hc
    clear c0 c1 c2 f2 hc hbs hr1 h1
    generalize w1.drewN nq = w2 at *
    have c0 := hb2.d0
    have c1 := hb2.d1
    have c2 := hb2.d2
    have f2 := hb2.frozen 2
    go_wp2_with fail
    go_still_tail 23, (by kernel_rfl)
    have e1 : IntKind.i64.wrap (a : Int) = a := IntWalk.i64_in _ (by omega)
    have e2 : IntKind.i64.wrap ((sd : Int) * 31) = (sd : Int) * 31 := IntWalk.i64_in _ (by omega)
    have e0 : IntKind.i64.wrap (b : Int) = b := IntWalk.i64_in _ (by omega)
    have e3 : IntKind.i64.wrap ((sd : Int) * 31 + b) = (sd : Int) * 31 + b := IntWalk.i64_in _ (by omega)
    have e4 : IntKind.i64.wrap ((sd : Int) * 31 + b + 7) = (sd : Int) * 31 + b + 7 := IntWalk.i64_in _ (by omega)
    have e6 : ((sd : Int) * 31 + b + 7).tmod 2147483648 = ((sd : Int) * 31 + b + 7) % 2147483648 := Int.tmod_eq_emod_of_nonneg (by omega)
    repeat (first | still_step | rw [e1] | rw [e2])
    try refine wpStill_nil ?_
    change wpList _ _ _ _ _ w2.drew
    have e5 : ((sd : Int) * 31 + b + 7) % 2147483648 = (((sd * 31 + b + 7) % 2147483648 : Nat) : Int) := by omega
    first | rw [e6, e5] | rw [e5]
    have hr3 : Rg g (g + 1) w w2.drew := hr2.trans (Rg.of_nx (Nx.refl w2).drew)
    have hb3 : Box w2.drew g 101 #[.slice (some ⟨b0, off, none⟩) n c, .int .i64 ((a : Int) + 1), .int .i64 sd] := hb2
    have hc3 : w2.drew.cell? ⟨b0, off + a, none⟩ = some (.int .u8 (b : Int)) := hc2
    clear c0 c1 c2 f2 hc2 hb2 hr2 e0 e2 e3 e4 e5 e6
    generalize w2.drew = w3 at *
    have c2 := hb3.d2
    have f2 := hb3.frozen 2
    generalize hs' : (sd * 31 + b + 7) % 2147483648 = s'
    have Hs := Lib.hid hs'
    clear hs'
    have hb4 := hb3.put2 (.int .i64 (s' : Int))
    have hc4 : (w3.setCell ⟨g, 2, none⟩ (.int .i64 (s' : Int))).cell? ⟨b0, off + a, none⟩ = some (.int .u8 (b : Int)) := by rw [World.cell?_setCell_far _ _ _ _ (by simp; omega)]; exact hc3
    have hr4 := hr3.setCell (p := ⟨g, 2, none⟩) (Nat.le_refl _) (Nat.lt_succ_self _) (.int .i64 (s' : Int))
    go_wp2_with fail
    clear c2 f2 hc3 hb3 hr3
    generalize w3.setCell ⟨g, 2, none⟩ (.int .i64 (s' : Int)) = w4 at *
    have c0 := hb4.d0
    have c1 := hb4.d1
    go_quiet (fail)
    go_wp2
    go_ret
    refine ⟨rfl, ?_, hr4.trans (Rg.of_nx ((Nx.refl w4).drewN nq))⟩
    rw [Hs.out]
    exact hb4
  · unfold byteP at HP
    rw [if_neg (by rw [h1.1]; omega)] at HP
    by_cases h3 : 3000 < a + 1
    · rw [if_pos h3] at HP
      cases HP
      have h3' : decide ((3000 : Int) < (a : Int) + 1) = true := by simp; omega
      clear h3
      go_quiet (fail)
      go_wp2
      go_ret
      exact ⟨rfl, hbs, hr1.trans (Rg.of_nx ((Nx.refl w1).drewN nq))⟩
    · rw [if_neg h3] at HP
      have H3 := (Prod.mk.inj (Prod.mk.inj HP).2).2
      have H2 := (Prod.mk.inj (Prod.mk.inj HP).2).1
      have H1 := (Prod.mk.inj HP).1
      clear HP
      rw [H3] at H1
      have e6 : ((sd : Int) * 1103515245 + 12345).tmod 2147483648 = (sd' : Int) := by rw [Int.tmod_eq_emod_of_nonneg (by omega)]; omega
      have hsd' : sd' < 2147483648 := by omega
      have K1 := Lib.hid H1
      clear H3 H1
      subst H2
      have h3' : decide ((3000 : Int) < (a : Int) + 1) = false := by simp; omega
      clear h3
      go_quiet (fail)
      have hr2 : Rg g (g + 1) w (w1.drewN nq) := hr1.trans (Rg.of_nx ((Nx.refl w1).drewN nq))
      have hb2 : Box (w1.drewN nq) g 101 #[.slice A n c, .int .i64 ((a : Int) + 1), .int .i64 sd] := hbs
      clear c0 c1 c2 f2 hbs hr1 h1
      generalize w1.drewN nq = w2 at *
      have c0 := hb2.d0
      have c1 := hb2.d1
      have c2 := hb2.d2
      have f2 := hb2.frozen 2
      go_wp2
      go_ret
      exact ⟨ret_int (by have := K1.out; omega), hb2.put2 _, hr2.setCell (p := ⟨g, 2, none⟩) (Nat.le_refl _) (Nat.lt_succ_self _) _⟩

set_option maxRecDepth 100000 in
set_option maxHeartbeats 1000000 in
theorem next_c (m g : Nat) (A : Option Addr) (n c a sd B : Nat) (ys : List Nat) (b a' sd' : Nat) (w : World) (hm : 2 ≤ m) (hm2 : m ≤ 256) (hb : Src w g A n c a sd) (h : U8s w B A n ys) (hB : B ≤ g) (hn : n ≤ 1048576) (ha : a ≤ 1048576) (hs : sd < 2147483648)
    (HP : byteP ys a sd = (b, a', sd')) :
    Calls Tryd.prog 67 #[.pointer (some ⟨g, 0, none⟩), .int .i64 m] w fun e w' => e = .returned (.int .i64 ((b % m : Nat) : Int)) ∧ Src w' g A n c a' sd' ∧ Rg g (g + 1) w w' := by
  have HH := Lib.hid HP
  have hb2 := (byteP_lt h.2.1 hs HP).1
  clear HP
  go_enter Tryd.func67, Tryd.ntmps67
  go_wp2_with fail
  refine (byte_c g A n c a sd B ys b a' sd' _ hb h hB hn ha hs HH.out).mono ?_
  rintro e w1 ⟨rfl, h1, hr⟩
  go_wp2
  go_ret
  exact ⟨ret_int (by omega), h1, hr⟩

set_option maxRecDepth 100000 in
set_option maxHeartbeats 1000000 in
theorem chance_c (m g : Nat) (A : Option Addr) (n c a sd B : Nat) (ys : List Nat) (b a' sd' : Nat) (w : World) (hm : 2 ≤ m) (hm2 : m ≤ 256) (hb : Src w g A n c a sd) (h : U8s w B A n ys) (hB : B ≤ g) (hn : n ≤ 1048576) (ha : a ≤ 1048576) (hs : sd < 2147483648)
    (HP : byteP ys a sd = (b, a', sd')) :
    Calls Tryd.prog 68 #[.pointer (some ⟨g, 0, none⟩), .int .i64 m] w fun e w' => e = .returned (.bool (decide (b % m = m - 1))) ∧ Src w' g A n c a' sd' ∧ Rg g (g + 1) w w' := by
  have HH := Lib.hid HP
  have hb2 := (byteP_lt h.2.1 hs HP).1
  clear HP
  go_enter Tryd.func68, Tryd.ntmps68
  go_wp2_with fail
  refine (next_c m g A n c a sd B ys b a' sd' _ hm hm2 hb h hB hn ha hs HH.out).mono ?_
  rintro e w1 ⟨rfl, h1, hr⟩
  go_wp2
  all_goals (go_ret; refine ⟨ret_bool ?_, h1, hr⟩; rw [Bool.eq_iff_iff]; simp; omega)

set_option maxRecDepth 100000 in
set_option maxHeartbeats 1000000 in
theorem l00Source_c (A : Option Addr) (n c : Nat) (w : World) (hn : n ≤ 1048576) :
    Calls Tryd.prog 42 #[.slice A n c] w fun e w' => e = .returned (.pointer (some ⟨w.heap.size, 0, none⟩)) ∧ Src w' w.heap.size A n c 0 (n % 1000) ∧ Nx w w' := by
  go_enter Tryd.func42, Tryd.ntmps42
  go_wp2
  go_ret
  refine ⟨rfl, ?_, (Nx.refl w).alloc _⟩
  unfold Src
  rw [show (((n % 1000 : Nat) : Int)) = (n : Int) % 1000 from by omega]
  exact Box.new w _ _
end Go.Proofs.YtehahodomfbpjaaDoor
/- A list of bytes that comes in, opened. Conditions: none. -/
namespace Go.Proofs.YtehahodomfbpjaaDoor
set_option linter.unusedVariables false
set_option maxRecDepth 100000
open Go.ChangeShapes Go.WideShapes Go.RowKit Go.Deep

theorem addr_plain8 {w : World} {a : Addr} {v : Value} (h : w.cell? (a.add 0) = some v) : ∃ b off, a = ⟨b, off, none⟩ ∧ b < w.heap.size := by
  have h' : w.cell? a = some v := by simpa [Addr.add] using h
  have hs := World.cell?_spot h'
  obtain ⟨b, off, sp⟩ := a
  simp only at hs
  subst hs
  exact ⟨b, off, rfl, World.block_lt_of_cell? w _ h'⟩
theorem addr_add8 (b off i : Nat) : (Addr.mk b off none).add i = ⟨b, off + i, none⟩ := by
  unfold Addr.add
  by_cases h : i = 0
  · subst h; simp
  · simp [h]
theorem c5_ : Tryd.prog.cellsOf 5 = 1 := by kernel_rfl
theorem u8_wf {n : Int} (h : (Lit.int .u8 n).wf = true) : 0 ≤ n ∧ n < 256 := by
  have h2 : IntKind.u8.min ≤ n ∧ n ≤ IntKind.u8.max := by simpa [Lit.wf] using h
  have e1 : IntKind.u8.min = 0 := by decide
  have e2 : IntKind.u8.max = 255 := by decide
  omega
set_option maxRecDepth 100000 in
theorem open_u8s_ {H : Type} {enc : TypeId × Value → H} {w : World} {base : Nat} {spare : Nat → Bool} {held : Bool} {r : Reach} {b0 : Nat} {v : Value} {d : DataW H} {p : List MemPlace}
    (hv : Value.okWide Tryd.prog w r b0 35 v) (h : DataW.Trod enc Tryd.prog w base spare held 35 v d p) :
    ∃ (A : Option Addr) (n c : Nat) (ys : List Nat), v = .slice A n c ∧ U8s w w.heap.size A n ys ∧ n ≤ 2 ^ 63 - 1 := by
  obtain ⟨a0, len0, cap0, rfl⟩ := okWide_slice Tryd.underlying35 hv
  obtain ⟨fuel, hf⟩ := h
  rcases open_slice Tryd.underlying35 hf with ⟨hcs, _⟩ | ⟨a, len, cap, m, n, D, Pl, hcs, _, hl, hm, hmm, _, hi⟩
  · simp [Value.cells] at hcs
    obtain ⟨rfl, rfl, rfl⟩ := hcs
    exact ⟨none, 0, 0, [], rfl, ⟨rfl, fun i => by simp, fun hn => absurd hn (by omega)⟩, by omega⟩
  · simp [Value.cells] at hcs
    obtain ⟨rfl, rfl, rfl⟩ := hcs
    have hle : len0 ≤ m := by rw [hmm]; split <;> omega
    unfold maxLen at hm
    have key : ∀ i, ∃ q : Nat, q < 256 ∧ (i < m → w.cell? (a.add i) = some (.int .u8 (q : Int))) := by
      intro i
      by_cases him : i < m
      · obtain ⟨cs', hc, ht⟩ := hi i him
        rw [c5_, Nat.mul_one] at hc
        obtain ⟨_, hcl, hat⟩ := World.cells?_some hc
        obtain ⟨q, e, _, hw⟩ := DataW.trod_int Tryd.underlying5 ht
        subst e
        obtain ⟨h1, h2⟩ := u8_wf hw
        refine ⟨q.toNat, by omega, fun _ => ?_⟩
        have := hat 0 (by omega)
        rw [show ((q.toNat : Nat) : Int) = q by omega]
        simpa [Addr.add] using this
      · exact ⟨0, by omega, fun h => absurd h him⟩
    obtain ⟨g, hg⟩ := Classical.skolem.1 key
    refine ⟨some a, len0, cap0, (List.range len0).map g, rfl, ⟨by simp, fun i => ?_, fun hn => ?_⟩, by omega⟩
    · rw [List.getD_eq_getElem?_getD, List.getElem?_map]
      by_cases hi' : i < len0
      · rw [List.getElem?_range hi']; exact (hg i).1
      · rw [List.getElem?_eq_none (by simpa using hi')]; simp
    · obtain ⟨b, off, rfl, hb⟩ := addr_plain8 ((hg 0).2 (by omega))
      refine ⟨b, off, rfl, hb, fun i hi => ?_⟩
      have h1 := (hg i).2 (by omega)
      rw [addr_add8] at h1
      rw [h1]
      unfold u8At
      rw [List.getD_eq_getElem?_getD, List.getElem?_map, List.getElem?_range hi]; rfl
end Go.Proofs.YtehahodomfbpjaaDoor
/- Contracts of FrameOK, as the model and as the program have it: both answer the same bool of every frame. Conditions: none. -/
namespace Go.Proofs.YtehahodomfbpjaaDoor
set_option linter.unusedVariables false
set_option maxRecDepth 100000
open Go.RowKit

/-- A number within its bounds. -/
def inB (lo hi a : Int) : Bool := decide (lo ≤ a) && decide (a ≤ hi)
theorem inB_yes {lo hi a : Int} (h : inB lo hi a = true) : lo ≤ a ∧ a ≤ hi := by
  unfold inB at h; simpa using h
theorem inB_mk {lo hi a : Int} (h1 : lo ≤ a) (h2 : a ≤ hi) : inB lo hi a = true := by
  unfold inB; simp [h1, h2]
/-- What a frame is. -/
def frameB (p b v t : Int) : Bool := inB 1 999999 p && inB 0 7 b && inB 0 999999 v && inB 0 999999 t

set_option maxHeartbeats 1000000 in
theorem l01In_c (a lo hi : Int) (w : World) : Calls Tryd.prog 54 #[.int .i64 a, .int .i64 lo, .int .i64 hi] w fun e w' => e = .returned (.bool (inB lo hi a)) ∧ w = w' := by
  go_enter Tryd.func54, Tryd.ntmps54
  go_wp2
  all_goals (go_ret; refine ⟨ret_bool ?_, rfl⟩; unfold inB; rw [Bool.eq_iff_iff]; simp; try omega)
set_option maxHeartbeats 1000000 in
theorem isWithin_c (a lo hi : Int) (w : World) : Calls Tryd.prog 85 #[.int .i64 a, .int .i64 lo, .int .i64 hi] w fun e w' => e = .returned (.bool (inB lo hi a)) ∧ w = w' := by
  go_enter Tryd.func85, Tryd.ntmps85
  go_wp2
  all_goals (go_ret; refine ⟨ret_bool ?_, rfl⟩; unfold inB; rw [Bool.eq_iff_iff]; simp; try omega)
theorem isPosition_c (a : Int) (w : World) : Calls Tryd.prog 69 #[.int .i64 a] w fun e w' => e = .returned (.bool (inB 0 999999 a)) ∧ w = w' := by
  go_enter Tryd.func69, Tryd.ntmps69
  go_wp2_with (go_at_call 85; refine (isWithin_c _ _ _ _).mono ?_; rintro e w' ⟨rfl, rfl⟩)
  go_ret
  exact ⟨rfl, rfl⟩
theorem isTime_c (a : Int) (w : World) : Calls Tryd.prog 70 #[.int .i64 a] w fun e w' => e = .returned (.bool (inB 0 999999 a)) ∧ w = w' := by
  go_enter Tryd.func70, Tryd.ntmps70
  go_wp2_with (go_at_call 85; refine (isWithin_c _ _ _ _).mono ?_; rintro e w' ⟨rfl, rfl⟩)
  go_ret
  exact ⟨rfl, rfl⟩
theorem isValue_c (a : Int) (w : World) : Calls Tryd.prog 78 #[.int .i64 a] w fun e w' => e = .returned (.bool (inB 0 999999 a)) ∧ w = w' := by
  go_enter Tryd.func78, Tryd.ntmps78
  go_wp2_with (go_at_call 85; refine (isWithin_c _ _ _ _).mono ?_; rintro e w' ⟨rfl, rfl⟩)
  go_ret
  exact ⟨rfl, rfl⟩
theorem isBlock_c (a : Int) (w : World) : Calls Tryd.prog 77 #[.int .i64 a] w fun e w' => e = .returned (.bool (inB 0 7 a)) ∧ w = w' := by
  go_enter Tryd.func77, Tryd.ntmps77
  go_wp2_with (go_at_call 85; refine (isWithin_c _ _ _ _).mono ?_; rintro e w' ⟨rfl, rfl⟩)
  go_ret
  exact ⟨rfl, rfl⟩

set_option maxHeartbeats 1000000 in
theorem specFrameOK_c (p b v t : Int) (w : World) : Calls Tryd.prog 26 #[.agg #[.int .i64 p, .int .i64 b, .int .i64 v, .int .i64 t]] w fun e w' => e = .returned (.bool (frameB p b v t)) ∧ Nx w w' := by
  obtain ⟨r, HF⟩ : ∃ r, Hid (r = frameB p b v t) := ⟨_, rfl⟩
  obtain ⟨x1, H1⟩ : ∃ r, Hid (inB 1 999999 p = r) := ⟨_, rfl⟩
  obtain ⟨x2, H2⟩ : ∃ r, Hid (inB 0 7 b = r) := ⟨_, rfl⟩
  obtain ⟨x3, H3⟩ : ∃ r, Hid (inB 0 999999 v = r) := ⟨_, rfl⟩
  obtain ⟨x4, H4⟩ : ∃ r, Hid (inB 0 999999 t = r) := ⟨_, rfl⟩
  have HR := Lib.hid (show (x1 && x2 && x3 && x4) = frameB p b v t by rw [← H1.out, ← H2.out, ← H3.out, ← H4.out]; rfl)
  clear HF r
  cases x1 <;> cases x2 <;> cases x3 <;> cases x4 <;> (
    go_enter Tryd.func26, Tryd.ntmps26
    go_wp2_with (go_at_call 54; refine (l01In_c _ _ _ _).mono ?_; rintro e w' ⟨rfl, rfl⟩; first | rw [H1.out] | rw [H2.out] | rw [H3.out] | rw [H4.out])
    go_ret
    exact ⟨ret_bool HR.out, (Nx.refl _).alloc _⟩)

set_option maxHeartbeats 1000000 in
theorem frameRight_c (p b v t : Int) (w : World) : Calls Tryd.prog 51 #[.agg #[.int .i64 p, .int .i64 b, .int .i64 v, .int .i64 t]] w fun e w' => e = .returned (.bool (frameB p b v t)) ∧ Nx w w' := by
  obtain ⟨x1, H1⟩ : ∃ r, Hid (inB 0 999999 p = r) := ⟨_, rfl⟩
  obtain ⟨x0, H0⟩ : ∃ r, Hid (decide (0 < p) = r) := ⟨_, rfl⟩
  obtain ⟨x2, H2⟩ : ∃ r, Hid (inB 0 7 b = r) := ⟨_, rfl⟩
  obtain ⟨x3, H3⟩ : ∃ r, Hid (inB 0 999999 v = r) := ⟨_, rfl⟩
  obtain ⟨x4, H4⟩ : ∃ r, Hid (inB 0 999999 t = r) := ⟨_, rfl⟩
  have HR := Lib.hid (show (x1 && x0 && x2 && x3 && x4) = frameB p b v t by
    rw [← H1.out, ← H0.out, ← H2.out, ← H3.out, ← H4.out]
    have : (inB 0 999999 p && decide (0 < p)) = inB 1 999999 p := by unfold inB; rw [Bool.eq_iff_iff]; simp; omega
    rw [this]; rfl)
  have h0 := H0.out
  clear H0
  cases x1 <;> cases x0 <;> cases x2 <;> cases x3 <;> cases x4 <;> (
    go_enter Tryd.func51, Tryd.ntmps51
    go_wp2_with (first
      | (go_at_call 69; refine (isPosition_c _ _).mono ?_; rintro e w' ⟨rfl, rfl⟩; rw [H1.out])
      | (go_at_call 77; refine (isBlock_c _ _).mono ?_; rintro e w' ⟨rfl, rfl⟩; rw [H2.out])
      | (go_at_call 78; refine (isValue_c _ _).mono ?_; rintro e w' ⟨rfl, rfl⟩; rw [H3.out])
      | (go_at_call 70; refine (isTime_c _ _).mono ?_; rintro e w' ⟨rfl, rfl⟩; rw [H4.out]))
    go_ret
    exact ⟨ret_bool HR.out, (Nx.refl _).alloc _⟩)
set_option maxHeartbeats 1000000 in
theorem implFrameOK_c (p b v t : Int) (w : World) : Calls Tryd.prog 23 #[.agg #[.int .i64 p, .int .i64 b, .int .i64 v, .int .i64 t]] w fun e w' => e = .returned (.bool (frameB p b v t)) ∧ Nx w w' := by
  go_enter Tryd.func23, Tryd.ntmps23
  go_wp2_with fail
  refine (frameRight_c p b v t _).mono ?_
  rintro e w1 ⟨rfl, hnx⟩
  go_wp2
  go_ret
  exact ⟨rfl, ((Nx.refl _).alloc _).trans hnx⟩
end Go.Proofs.YtehahodomfbpjaaDoor
