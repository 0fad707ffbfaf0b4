/-
  Texts of the proof, put together in their order: Core, Frm, Ins, Seg, Ap, Fwd, Val, Cnt, Lex, Sgi.
  Conditions: those of each.
-/
import Derived.Test.YtjefjngheolmkaaRows
import Derived.WalkKit
import Derived.ProofKit
import Derived.OpenShut
import Derived.ShutString
import Derived.WalkSpells
import Derived.Lib.Hide
import Derived.Below
import Derived.Laws.OwnMore
import Derived.Deep.Draws
import Derived.Laws.Rows
import Derived.Laws.MakeOwn
import Derived.Laws.Entries
import Derived.OwnWalk
import Derived.Outline
import Derived.Deep.QuietTactic
import Derived.BigQuiet
import Derived.Deep.RegionHeld3
import Derived.Laws.Append
import Derived.Laws.AppendOwn
import Derived.Laws.CopyRow
import Derived.Laws.Cells
import Derived.RegionTactic
import Derived.Deep.RegionLaw
import Derived.IntWalk
/- Words on memory for the texts of this seat: blocks of the call's own, blocks that are known whole, what a size is, and how these facts go on from world to world. Conditions: none. -/
namespace Go.Proofs.Ytjefjngheolmkaa
set_option linter.unusedVariables false
set_option maxRecDepth 100000
open Go.RowKit

theorem ret_bool {a b : Bool} (h : a = b) : Ending.returned (.bool a) = .returned (.bool b) := by rw [h]
theorem ret_int {a b : Int} (h : a = b) : Ending.returned (.int .i64 a) = .returned (.int .i64 b) := by rw [h]

/-- Nothing that was there has turned. -/
abbrev Nx (w w' : World) : Prop := Below w.heap.size w w'
theorem Nx.refl (w : World) : Nx w w := Below.refl _ _
theorem Nx.trans {a b c : World} (h : Nx a b) (k : Nx b c) : Nx a c := Below.trans h (Below.mono k h.size)
theorem Nx.alloc {a w : World} (h : Nx a w) (o : Obj) : Nx a (w.alloc o) := Below.alloc h h.size o
theorem Nx.drew {a w : World} (h : Nx a w) : Nx a w.drew := ⟨h.os, h.tape, h.output, h.size, h.block⟩
theorem Nx.drewN {a w : World} (h : Nx a w) (n : Nat) : Nx a (w.drewN n) := ⟨h.os, h.tape, h.output, h.size, h.block⟩
theorem Nx.drew_r {a w : World} (h : Nx a.drew w) : Nx a w := ⟨h.os, h.tape, h.output, h.size, h.block⟩

/-- The cells from an address on, in a block below B. -/
def Row (w : World) (B : Nat) (A : Option Addr) (m : Nat) (f : Nat → Value) : Prop :=
  0 < m → ∃ b off, A = some ⟨b, off, none⟩ ∧ b < B ∧ ∀ i, i < m → w.cell? ⟨b, off + i, none⟩ = some (f i)
theorem Row.keep {w w' : World} {B m : Nat} {A : Option Addr} {f : Nat → Value} (h : Row w B A m f) (hk : ∀ p : Addr, p.block < B → w'.cell? p = w.cell? p) : Row w' B A m f := fun hm => by
  obtain ⟨b, off, e, hb, hc⟩ := h hm
  exact ⟨b, off, e, hb, fun i hi => (hk _ hb).trans (hc i hi)⟩
theorem Row.more {w : World} {B B' m : Nat} {A : Option Addr} {f : Nat → Value} (h : Row w B A m f) (hB : B ≤ B') : Row w B' A m f := fun hm => by
  obtain ⟨b, off, e, hb, hc⟩ := h hm
  exact ⟨b, off, e, by omega, hc⟩
theorem Row.below {w w' : World} {B B' m : Nat} {A : Option Addr} {f : Nat → Value} (h : Row w B A m f) (hb : Below B' w w') (hB : B ≤ B') : Row w' B A m f := h.keep fun _ hp => hb.cell (by omega)

/-- A slice of bools that is read. -/
def blAt (bs : List Bool) (i : Nat) : Value := .bool (bs.getD i false)
def Bls (w : World) (B : Nat) (A : Option Addr) (n : Nat) (bs : List Bool) : Prop := bs.length = n ∧ Row w B A n (blAt bs)
theorem Bls.below {w w' : World} {B B' n : Nat} {A : Option Addr} {bs : List Bool} (h : Bls w B A n bs) (hb : Below B' w w') (hB : B ≤ B') : Bls w' B A n bs := ⟨h.1, h.2.below hb hB⟩
theorem Bls.more {w : World} {B B' n : Nat} {A : Option Addr} {bs : List Bool} (h : Bls w B A n bs) (hB : B ≤ B') : Bls w B' A n bs := ⟨h.1, h.2.more hB⟩
theorem Bls.at_ {w : World} {B n k : Nat} {A : Option Addr} {bs : List Bool} (h : Bls w B A n bs) (hk : k < n) :
    ∃ b off, A = some ⟨b, off, none⟩ ∧ b < B ∧ w.cell? ⟨b, off + k, none⟩ = some (.bool (bs.getD k false)) := by
  obtain ⟨b, off, e, hb, hc⟩ := h.2 (by omega)
  exact ⟨b, off, e, hb, hc k hk⟩
/-- What is left of a size behind a cost: -1 if it is not enough. -/
def szR (left cost : Int) : Int := if cost ≤ left then left - cost else -1
theorem sum_take_succ (l : List Nat) (k : Nat) (h : k < l.length) : (l.take (k + 1)).sum = (l.take k).sum + l[k] := by
  rw [List.take_succ_eq_append_getElem h, List.sum_append]; simp
theorem sum_take_le (l : List Nat) (k : Nat) : (l.take k).sum ≤ l.sum := by
  have : l.sum = (l.take k).sum + (l.drop k).sum := by rw [← List.sum_append, List.take_append_drop]
  omega
theorem szR_no {left cost : Int} (h : left < cost) : -1 = szR left cost := by unfold szR; rw [if_neg (by omega)]
theorem szR_yes {left cost : Int} (h : cost ≤ left) : left - cost = szR left cost := by unfold szR; rw [if_pos h]
theorem szR_szR {left a b : Int} (h : a ≤ left) : szR (szR left a) b = szR left (a + b) := by
  unfold szR
  rw [if_pos h]
  by_cases hc : a + b ≤ left
  · rw [if_pos (by omega), if_pos hc]; omega
  · rw [if_neg (by omega), if_neg hc]

/-- A block of the call's own, known whole, none of it frozen: its first m cells are f. -/
def Own (w : World) (g : Nat) (t : TypeId) (m : Nat) (f : Nat → Value) : Prop :=
  ∃ cs : Array Value, w.heap[g]? = some (.cells cs t (0, 0)) ∧ m ≤ cs.size ∧ ∀ i, i < m → cs[i]? = some (f i)
section
variable {w w' : World} {g : Nat} {t : TypeId} {m : Nat} {f : Nat → Value}
theorem Own.lt (h : Own w g t m f) : g < w.heap.size := by
  obtain ⟨cs, h, _⟩ := h
  rcases Nat.lt_or_ge g w.heap.size with hlt | hge
  · exact hlt
  · rw [Array.getElem?_eq_none hge] at h; cases h
theorem Own.cell (h : Own w g t m f) {i : Nat} (hi : i < m) : w.cell? ⟨g, i, none⟩ = some (f i) := by
  obtain ⟨cs, h, _, hc⟩ := h
  exact (cell_of_row w g i cs t (0, 0) h).trans (hc i hi)
theorem Own.frozen (h : Own w g t m f) (i : Nat) : w.frozen? ⟨g, i, none⟩ = false := by
  obtain ⟨cs, h, _⟩ := h
  simp [World.frozen?, h]
theorem Own.of_block (h : Own w g t m f) (hb : w'.heap[g]? = w.heap[g]?) : Own w' g t m f := by
  obtain ⟨cs, h, r⟩ := h
  exact ⟨cs, hb.trans h, r⟩
theorem Own.below {B : Nat} (h : Own w g t m f) (hb : Below B w w') (hg : g < B) : Own w' g t m f := h.of_block (hb.block g hg)
theorem Own.nx (h : Own w g t m f) (hb : Nx w w') : Own w' g t m f := h.of_block (hb.block g h.lt)
theorem Own.row (h : Own w g t m f) {B : Nat} (hB : g < B) : Row w B (some ⟨g, 0, none⟩) m f := fun _ =>
  ⟨g, 0, rfl, hB, fun i hi => by rw [Nat.zero_add]; exact h.cell hi⟩
theorem Own.set (h : Own w g t m f) {k : Nat} (hk : k < m) (v : Value) : Own (w.setCell ⟨g, k, none⟩ v) g t m (fun i => if i = k then v else f i) := by
  obtain ⟨cs, h, hm, hc⟩ := h
  refine ⟨cs.setIfInBounds k v, ?_, by simpa using hm, fun i hi => ?_⟩
  · simp [World.setCell, Array.getElem?_modify, h]
  · rw [Array.getElem?_setIfInBounds]
    by_cases e : k = i
    · subst e; rw [if_pos rfl, if_pos (by omega)]; simp
    · rw [if_neg e, hc i hi]; show some (f i) = some (if i = k then v else f i); rw [if_neg (fun h : i = k => e h.symm)]
theorem Own.far (h : Own w g t m f) {p : Addr} (hp : g ≠ p.block) (v : Value) : Own (w.setCell p v) g t m f := h.of_block (Below.heap_setCell w p v g hp)
theorem Own.alloc (h : Own w g t m f) (o : Obj) : Own (w.alloc o) g t m f := h.of_block (Below.heap_alloc w o g h.lt)
theorem Own.drewN (h : Own w g t m f) (n : Nat) : Own (w.drewN n) g t m f := h
theorem Own.congr {f' : Nat → Value} (h : Own w g t m f) (hf : ∀ i, i < m → f i = f' i) : Own w g t m f' := by
  obtain ⟨cs, h, hm, hc⟩ := h
  exact ⟨cs, h, hm, fun i hi => by rw [← hf i hi]; exact hc i hi⟩
theorem Own.less {m' : Nat} (h : Own w g t m f) (hm : m' ≤ m) : Own w g t m' f := by
  obtain ⟨cs, h, hm', hc⟩ := h
  exact ⟨cs, h, by omega, fun i hi => hc i (by omega)⟩
end
/-- A block of the call's own that is being filled: its first k cells are F already. -/
def Fill (w : World) (g : Nat) (t : TypeId) (m k : Nat) (F : Nat → Value) : Prop := ∃ f, Own w g t m f ∧ ∀ i, i < k → f i = F i
section
variable {w w' : World} {g : Nat} {t : TypeId} {m k : Nat} {f F : Nat → Value}
theorem Fill.start (h : Own w g t m f) : Fill w g t m 0 F := ⟨f, h, fun i hi => absurd hi (by omega)⟩
theorem Fill.lt (h : Fill w g t m k F) : g < w.heap.size := by
  obtain ⟨f, h, _⟩ := h; exact h.lt
theorem Fill.some_ (h : Fill w g t m k F) {i : Nat} (hi : i < m) : ∃ v, w.cell? ⟨g, i, none⟩ = some v := by
  obtain ⟨f, h, _⟩ := h; exact ⟨_, h.cell hi⟩
theorem Fill.frozen (h : Fill w g t m k F) (i : Nat) : w.frozen? ⟨g, i, none⟩ = false := by
  obtain ⟨f, h, _⟩ := h; exact h.frozen i
theorem Fill.step (h : Fill w g t m k F) (hk : k < m) {v : Value} (hv : v = F k) : Fill (w.setCell ⟨g, k, none⟩ v) g t m (k + 1) F := by
  obtain ⟨f, h, hf⟩ := h
  refine ⟨_, h.set hk v, fun i hi => ?_⟩
  by_cases e : i = k
  · subst e; simp [hv]
  · simp only [if_neg e]; exact hf i (by omega)
theorem Fill.done (h : Fill w g t m m F) : Own w g t m F := by
  obtain ⟨f, h, hf⟩ := h; exact h.congr hf
theorem Fill.nx (h : Fill w g t m k F) (hb : Nx w w') : Fill w' g t m k F := by
  obtain ⟨f, h, hf⟩ := h; exact ⟨f, h.nx hb, hf⟩
theorem Nx.setCell {a w : World} (h : Nx a w) {p : Addr} (hp : a.heap.size ≤ p.block) (v : Value) : Nx a (w.setCell p v) := Below.setCell h hp v
end
theorem Own.made (w : World) (z : Array Value) (n : Nat) (t : TypeId) : Own (w.alloc (.cells (madeCells z n) t)) w.heap.size t n (fun i => z[i % z.size]!) :=
  ⟨_, heap_alloc_new w _, by rw [size_madeCells]; exact Nat.le_refl _, fun i hi => by simp [madeCells, hi]⟩
theorem run_make_rowN {P : Program} (t e : TypeId) (i : TypeInfo) (z : Value) (ht : P.underlying t = some (.slice e)) (hi : P.info? e = some i) (hz : i.zero = some z)
    (kl kc : IntKind) (n c : Nat) (hnc : n ≤ c) (hbytes : i.bytes * c ≤ 281474976710656) (h63 : c ≤ 9223372036854775807) (w : World) :
    (Instr.makeSlice t (.int kl (n : Int)) (.int kc (c : Int))).run P w = .ok (.slice (some ⟨w.heap.size, 0, none⟩) n c) (w.alloc (.cells (madeCells z.cells (c * i.size)) e)) := by
  have hb : (i.bytes : Int) * (c : Int) ≤ 281474976710656 := by
    have h : ((i.bytes * c : Nat) : Int) ≤ 281474976710656 := by omega
    rwa [Int.natCast_mul] at h
  have hr := run_make (P := P) w t e i z ht hi hz kl kc n c (by omega) (by omega) hb (by omega)
  simp only [Int.toNat_natCast] at hr
  exact hr
/-- Of what was there nothing has turned but, perhaps, the blocks from lo to below hi. -/
structure Rg (lo hi : Nat) (w w' : World) : Prop where
  os : w'.os = w.os
  tape : w'.tape = w.tape
  output : w'.output = w.output
  size : w.heap.size ≤ w'.heap.size
  block : ∀ k, k < w.heap.size → (k < lo ∨ hi ≤ k) → w'.heap[k]? = w.heap[k]?
theorem Rg.of_nx {lo hi : Nat} {w w' : World} (h : Nx w w') : Rg lo hi w w' := ⟨h.os, h.tape, h.output, h.size, fun k hk _ => h.block k hk⟩
theorem Rg.trans {lo hi : Nat} {a b c : World} (h : Rg lo hi a b) (k : Rg lo hi b c) : Rg lo hi a c :=
  ⟨k.os.trans h.os, k.tape.trans h.tape, k.output.trans h.output, Nat.le_trans h.size k.size, fun i hi' hr => (k.block i (Nat.lt_of_lt_of_le hi' h.size) hr).trans (h.block i hi' hr)⟩
theorem Rg.setCell {lo hi : Nat} {a w : World} (h : Rg lo hi a w) {p : Addr} (h1 : lo ≤ p.block) (h2 : p.block < hi) (v : Value) : Rg lo hi a (w.setCell p v) :=
  h.trans ⟨rfl, rfl, rfl, by simp [World.setCell], fun k _ hr => Below.heap_setCell _ _ _ _ (by omega)⟩
theorem Rg.below {lo hi : Nat} {w w' : World} (h : Rg lo hi w w') (hB : lo ≤ w.heap.size) : Below lo w w' := ⟨h.os, h.tape, h.output, h.size, fun k hk => h.block k (by omega) (.inl hk)⟩
theorem Rg.nx_of {lo hi : Nat} {a w w' : World} (h : Nx a w) (k : Rg lo hi w w') (hl : a.heap.size ≤ lo) : Nx a w' :=
  ⟨k.os.trans h.os, k.tape.trans h.tape, k.output.trans h.output, Nat.le_trans h.size k.size, fun i hi' => (k.block i (Nat.lt_of_lt_of_le hi' h.size) (.inl (by omega))).trans (h.block i hi')⟩
theorem Own.rg {lo hi : Nat} {w w' : World} {g : Nat} {t : TypeId} {m : Nat} {f : Nat → Value} (h : Own w g t m f) (hb : Rg lo hi w w') (hg : g < lo ∨ hi ≤ g) : Own w' g t m f := h.of_block (hb.block g h.lt hg)
/-- Blocks of the call's own that hold another type than t have not turned. -/
def TyK (t : TypeId) (w w' : World) : Prop := ∀ g t' m f, t' ≠ t → Own w g t' m f → Own w' g t' m f
theorem TyK.refl (t : TypeId) (w : World) : TyK t w w := fun _ _ _ _ _ h => h
theorem TyK.nx {t : TypeId} {a w w' : World} (h : TyK t a w) (hb : Nx w w') : TyK t a w' := fun g t' m f hne ho => (h g t' m f hne ho).nx hb
theorem Own.ne_type {w : World} {g g' : Nat} {t t' : TypeId} {m m' : Nat} {f f' : Nat → Value} (h : Own w g t m f) (h' : Own w g' t' m' f') (hne : t' ≠ t) : g' ≠ g := by
  rintro rfl
  obtain ⟨cs, h, _⟩ := h
  obtain ⟨cs', h', _⟩ := h'
  rw [h] at h'
  injection h' with h'
  injection h' with _ ht
  exact hne ht.symm
theorem TyK.set {t : TypeId} {a w : World} (h : TyK t a w) {g i m : Nat} {f : Nat → Value} (ho : Own w g t m f) (v : Value) : TyK t a (w.setCell ⟨g, i, none⟩ v) := fun g' t' m' f' hne h' =>
  (h g' t' m' f' hne h').far (Own.ne_type ho (h g' t' m' f' hne h') hne) v
theorem TyK.set_fill {t : TypeId} {a w : World} (h : TyK t a w) {g i m k : Nat} {F : Nat → Value} (ho : Fill w g t m k F) (v : Value) : TyK t a (w.setCell ⟨g, i, none⟩ v) := by
  obtain ⟨f, ho, _⟩ := ho; exact h.set ho v
/-- A block that is known whole. -/
def Box (w : World) (g : Nat) (t : TypeId) (cs : Array Value) : Prop := w.heap[g]? = some (.cells cs t (0, 0))
section
variable {w w' : World} {g : Nat} {t : TypeId} {cs : Array Value} {v0 v1 : Value}
theorem Box.lt (h : Box w g t cs) : g < w.heap.size := by
  rcases Nat.lt_or_ge g w.heap.size with hlt | hge
  · exact hlt
  · unfold Box at h; rw [Array.getElem?_eq_none hge] at h; cases h
theorem Box.new (w : World) (t : TypeId) (cs : Array Value) : Box (w.alloc (.cells cs t)) w.heap.size t cs := heap_alloc_new w _
theorem Box.alloc (h : Box w g t cs) (o : Obj) : Box (w.alloc o) g t cs := (Below.heap_alloc w o g h.lt).trans h
theorem Box.nx (h : Box w g t cs) (hb : Nx w w') : Box w' g t cs := (hb.block g h.lt).trans h
theorem Box.rg {lo hi : Nat} (h : Box w g t cs) (hb : Rg lo hi w w') (hg : g < lo ∨ hi ≤ g) : Box w' g t cs := (hb.block g h.lt hg).trans h
theorem Box.grown {row : Option Nat} (h : Box w g t cs) (hb : w.grownBy w' row) (hg : some g ≠ row) : Box w' g t cs := (hb.block g h.lt hg).trans h
theorem Box.far (h : Box w g t cs) {p : Addr} (hp : g ≠ p.block) (u : Value) : Box (w.setCell p u) g t cs := (Below.heap_setCell w p u g hp).trans h
theorem Box.cell (h : Box w g t cs) (i : Nat) : w.cell? ⟨g, i, none⟩ = cs[i]? := cell_of_row w g i cs t (0, 0) h
theorem Box.frozen (h : Box w g t cs) (i : Nat) : w.frozen? ⟨g, i, none⟩ = false := by
  unfold Box at h
  simp [World.frozen?, h]
theorem Box.c0 (h : Box w g t #[v0, v1]) : w.cell? ⟨g, 0, none⟩ = some v0 := h.cell 0
theorem Box.c1 (h : Box w g t #[v0, v1]) : w.cell? ⟨g, 1, none⟩ = some v1 := h.cell 1
theorem Box.set0 (h : Box w g t #[v0, v1]) (u : Value) : Box (w.setCell ⟨g, 0, none⟩ u) g t #[u, v1] := by
  unfold Box at h ⊢
  simp [World.setCell, Array.getElem?_modify, h]
theorem Box.set1 (h : Box w g t #[v0, v1]) (u : Value) : Box (w.setCell ⟨g, 1, none⟩ u) g t #[v0, u] := by
  unfold Box at h ⊢
  simp [World.setCell, Array.getElem?_modify, h]
end
/-- A slice's m cells lie in a block of the call's own, from block number lo on. -/
def Sl (w : World) (lo : Nat) (A : Option Addr) (t : TypeId) (m : Nat) (f : Nat → Value) : Prop := 0 < m → ∃ g, A = some ⟨g, 0, none⟩ ∧ lo ≤ g ∧ Own w g t m f
/-- .. its number from lo to below hi. -/
def Sr (w : World) (lo hi : Nat) (A : Option Addr) (t : TypeId) (m : Nat) (f : Nat → Value) : Prop := 0 < m → ∃ g, A = some ⟨g, 0, none⟩ ∧ lo ≤ g ∧ g < hi ∧ Own w g t m f
section
variable {w w' : World} {lo lo' hi : Nat} {A : Option Addr} {t : TypeId} {m : Nat} {f : Nat → Value}
theorem Sl.none_ (w : World) (lo : Nat) (A : Option Addr) (t : TypeId) (f : Nat → Value) : Sl w lo A t 0 f := fun h => absurd h (by omega)
theorem Sl.nx (h : Sl w lo A t m f) (hb : Nx w w') : Sl w' lo A t m f := fun hm => by
  obtain ⟨g, e, hl, ho⟩ := h hm; exact ⟨g, e, hl, ho.nx hb⟩
theorem Sl.low (h : Sl w lo A t m f) (hl : lo' ≤ lo) : Sl w lo' A t m f := fun hm => by
  obtain ⟨g, e, hl2, ho⟩ := h hm; exact ⟨g, e, Nat.le_trans hl hl2, ho⟩
theorem Sl.row (h : Sl w lo A t m f) : Row w w.heap.size A m f := fun hm => by
  obtain ⟨g, e, hl, ho⟩ := h hm; subst e; exact ho.row ho.lt hm
theorem Sl.sr (h : Sl w lo A t m f) : Sr w lo w.heap.size A t m f := fun hm => by
  obtain ⟨g, e, hl, ho⟩ := h hm; exact ⟨g, e, hl, ho.lt, ho⟩
theorem Sl.own {g : Nat} (h : Own w g t m f) (hg : lo ≤ g) : Sl w lo (some ⟨g, 0, none⟩) t m f := fun _ => ⟨g, rfl, hg, h⟩
theorem Sl.far (h : Sl w lo A t m f) {p : Addr} (hp : p.block < lo) (v : Value) : Sl (w.setCell p v) lo A t m f := fun hm => by
  obtain ⟨g, e, hl, ho⟩ := h hm; exact ⟨g, e, hl, ho.far (by omega) v⟩
theorem Sl.far_ty (h : Sl w lo A t m f) {p : Addr} {t' : TypeId} {cs : Array Value} (hp : Box w p.block t' cs) (ht : t' ≠ t) (v : Value) : Sl (w.setCell p v) lo A t m f := fun hm => by
  obtain ⟨g, e, hl, ho⟩ := h hm
  refine ⟨g, e, hl, ho.far (fun he => ?_) v⟩
  obtain ⟨cs', hc, _⟩ := ho
  unfold Box at hp
  rw [← he, hc] at hp
  injection hp with hp
  injection hp with _ hp
  exact ht hp.symm
theorem Sr.sl (h : Sr w lo hi A t m f) : Sl w lo A t m f := fun hm => by
  obtain ⟨g, e, hl, _, ho⟩ := h hm; exact ⟨g, e, hl, ho⟩
theorem Sr.nx (h : Sr w lo hi A t m f) (hb : Nx w w') : Sr w' lo hi A t m f := fun hm => by
  obtain ⟨g, e, hl, hh, ho⟩ := h hm; exact ⟨g, e, hl, hh, ho.nx hb⟩
theorem Sr.rg {a b : Nat} (h : Sr w lo hi A t m f) (hb : Rg a b w w') (hd : hi ≤ a ∨ b ≤ lo) : Sr w' lo hi A t m f := fun hm => by
  obtain ⟨g, e, hl, hh, ho⟩ := h hm; exact ⟨g, e, hl, hh, ho.rg hb (by omega)⟩
theorem Sr.ty {t' : TypeId} (h : Sr w lo hi A t m f) (hb : TyK t' w w') (hne : t ≠ t') : Sr w' lo hi A t m f := fun hm => by
  obtain ⟨g, e, hl, hh, ho⟩ := h hm; exact ⟨g, e, hl, hh, hb _ _ _ _ hne ho⟩
end
theorem Box.set {w : World} {g : Nat} {t : TypeId} {cs : Array Value} (h : Box w g t cs) (i : Nat) (u : Value) : Box (w.setCell ⟨g, i, none⟩ u) g t (cs.setIfInBounds i u) := by
  unfold Box at h ⊢
  simp [World.setCell, Array.getElem?_modify, h]
/-- A result's box of four cells, filled at the end. -/
def put4 (u : World) (g : Nat) (v0 v1 v2 v3 : Value) : World := (((u.setCell ⟨g, 0, none⟩ v0).setCell ⟨g, 1, none⟩ v1).setCell ⟨g, 2, none⟩ v2).setCell ⟨g, 3, none⟩ v3
theorem put4_box {u : World} {g : Nat} {t : TypeId} {a b c d : Value} (hb : Box u g t #[a, b, c, d]) (v0 v1 v2 v3 : Value) : Box (put4 u g v0 v1 v2 v3) g t #[v0, v1, v2, v3] :=
  (((hb.set 0 v0).set 1 v1).set 2 v2).set 3 v3
theorem put4_nx {w u : World} {g : Nat} (hx : Nx w u) (hg : w.heap.size ≤ g) (v0 v1 v2 v3 : Value) : Nx w (put4 u g v0 v1 v2 v3) :=
  (((hx.setCell (p := ⟨g, 0, none⟩) hg v0).setCell (p := ⟨g, 1, none⟩) hg v1).setCell (p := ⟨g, 2, none⟩) hg v2).setCell (p := ⟨g, 3, none⟩) hg v3
theorem Box.d3 {w : World} {g : Nat} {t : TypeId} {v0 v1 v2 : Value} (h : Box w g t #[v0, v1, v2]) : w.cell? ⟨g, 0, none⟩ = some v0 ∧ w.cell? ⟨g, 1, none⟩ = some v1 ∧ w.cell? ⟨g, 2, none⟩ = some v2 :=
  ⟨h.cell 0, h.cell 1, h.cell 2⟩
theorem Box.d4 {w : World} {g : Nat} {t : TypeId} {v0 v1 v2 v3 : Value} (h : Box w g t #[v0, v1, v2, v3]) : w.cell? ⟨g, 0, none⟩ = some v0 ∧ w.cell? ⟨g, 1, none⟩ = some v1 ∧ w.cell? ⟨g, 2, none⟩ = some v2 ∧ w.cell? ⟨g, 3, none⟩ = some v3 :=
  ⟨h.cell 0, h.cell 1, h.cell 2, h.cell 3⟩
end Go.Proofs.Ytjefjngheolmkaa
/- Contracts of FrameOK, as the model and as the program have it: both answer the same bool of every frame. Conditions: none. -/
namespace Go.Proofs.Ytjefjngheolmkaa
set_option linter.unusedVariables false
set_option maxRecDepth 100000
open Go.RowKit

/-- A number within its bounds. -/
def inB (lo hi a : Int) : Bool := decide (lo ≤ a) && decide (a ≤ hi)
theorem inB_yes {lo hi a : Int} (h : inB lo hi a = true) : lo ≤ a ∧ a ≤ hi := by
  unfold inB at h; simpa using h
theorem inB_mk {lo hi a : Int} (h1 : lo ≤ a) (h2 : a ≤ hi) : inB lo hi a = true := by
  unfold inB; simp [h1, h2]
theorem inB_no {lo hi a : Int} (h : a < lo ∨ hi < a) : inB lo hi a = false := by
  unfold inB
  rcases h with h | h
  · rw [decide_eq_false (by omega)]; rfl
  · rw [decide_eq_false (p := a ≤ hi) (by omega)]; simp
/-- What a frame is. -/
def frameB (p b v t : Int) : Bool := inB 1 999999 p && inB 0 7 b && inB 0 999999 v && inB 0 999999 t

set_option maxHeartbeats 1000000 in
theorem l01In_c (a lo hi : Int) (w : World) : Calls Try.prog 89 #[.int .i64 a, .int .i64 lo, .int .i64 hi] w fun e w' => e = .returned (.bool (inB lo hi a)) ∧ w = w' := by
  go_enter Try.func89, Try.ntmps89
  go_wp2
  all_goals (go_ret; refine ⟨ret_bool ?_, rfl⟩; unfold inB; rw [Bool.eq_iff_iff]; simp; try omega)
set_option maxHeartbeats 1000000 in
theorem isWithin_c (a lo hi : Int) (w : World) : Calls Try.prog 105 #[.int .i64 a, .int .i64 lo, .int .i64 hi] w fun e w' => e = .returned (.bool (inB lo hi a)) ∧ w = w' := by
  go_enter Try.func105, Try.ntmps105
  go_wp2
  all_goals (go_ret; refine ⟨ret_bool ?_, rfl⟩; unfold inB; rw [Bool.eq_iff_iff]; simp; try omega)
theorem isPosition_c (a : Int) (w : World) : Calls Try.prog 83 #[.int .i64 a] w fun e w' => e = .returned (.bool (inB 0 999999 a)) ∧ w = w' := by
  go_enter Try.func83, Try.ntmps83
  go_wp2_with (go_at_call 105; refine (isWithin_c _ _ _ _).mono ?_; rintro e w' ⟨rfl, rfl⟩)
  go_ret
  exact ⟨rfl, rfl⟩
theorem isTime_c (a : Int) (w : World) : Calls Try.prog 94 #[.int .i64 a] w fun e w' => e = .returned (.bool (inB 0 999999 a)) ∧ w = w' := by
  go_enter Try.func94, Try.ntmps94
  go_wp2_with (go_at_call 105; refine (isWithin_c _ _ _ _).mono ?_; rintro e w' ⟨rfl, rfl⟩)
  go_ret
  exact ⟨rfl, rfl⟩
theorem isValue_c (a : Int) (w : World) : Calls Try.prog 82 #[.int .i64 a] w fun e w' => e = .returned (.bool (inB 0 999999 a)) ∧ w = w' := by
  go_enter Try.func82, Try.ntmps82
  go_wp2_with (go_at_call 105; refine (isWithin_c _ _ _ _).mono ?_; rintro e w' ⟨rfl, rfl⟩)
  go_ret
  exact ⟨rfl, rfl⟩
theorem isBlock_c (a : Int) (w : World) : Calls Try.prog 100 #[.int .i64 a] w fun e w' => e = .returned (.bool (inB 0 7 a)) ∧ w = w' := by
  go_enter Try.func100, Try.ntmps100
  go_wp2_with (go_at_call 105; refine (isWithin_c _ _ _ _).mono ?_; rintro e w' ⟨rfl, rfl⟩)
  go_ret
  exact ⟨rfl, rfl⟩

set_option maxHeartbeats 1000000 in
theorem specFrameOK_c (p b v t : Int) (w : World) : Calls Try.prog 55 #[.agg #[.int .i64 p, .int .i64 b, .int .i64 v, .int .i64 t]] w fun e w' => e = .returned (.bool (frameB p b v t)) ∧ Nx w w' := by
  obtain ⟨r, HF⟩ : ∃ r, Hid (r = frameB p b v t) := ⟨_, rfl⟩
  obtain ⟨x1, H1⟩ : ∃ r, Hid (inB 1 999999 p = r) := ⟨_, rfl⟩
  obtain ⟨x2, H2⟩ : ∃ r, Hid (inB 0 7 b = r) := ⟨_, rfl⟩
  obtain ⟨x3, H3⟩ : ∃ r, Hid (inB 0 999999 v = r) := ⟨_, rfl⟩
  obtain ⟨x4, H4⟩ : ∃ r, Hid (inB 0 999999 t = r) := ⟨_, rfl⟩
  have HR := Lib.hid (show (x1 && x2 && x3 && x4) = frameB p b v t by rw [← H1.out, ← H2.out, ← H3.out, ← H4.out]; rfl)
  clear HF r
  cases x1 <;> cases x2 <;> cases x3 <;> cases x4 <;> (
    go_enter Try.func55, Try.ntmps55
    go_wp2_with (go_at_call 89; refine (l01In_c _ _ _ _).mono ?_; rintro e w' ⟨rfl, rfl⟩; first | rw [H1.out] | rw [H2.out] | rw [H3.out] | rw [H4.out])
    go_ret
    exact ⟨ret_bool HR.out, (Nx.refl _).alloc _⟩)

set_option maxHeartbeats 1000000 in
theorem frameRight_c (p b v t : Int) (w : World) : Calls Try.prog 58 #[.agg #[.int .i64 p, .int .i64 b, .int .i64 v, .int .i64 t]] w fun e w' => e = .returned (.bool (frameB p b v t)) ∧ Nx w w' := by
  obtain ⟨x1, H1⟩ : ∃ r, Hid (inB 0 999999 p = r) := ⟨_, rfl⟩
  obtain ⟨x0, H0⟩ : ∃ r, Hid (decide (0 < p) = r) := ⟨_, rfl⟩
  obtain ⟨x2, H2⟩ : ∃ r, Hid (inB 0 7 b = r) := ⟨_, rfl⟩
  obtain ⟨x3, H3⟩ : ∃ r, Hid (inB 0 999999 v = r) := ⟨_, rfl⟩
  obtain ⟨x4, H4⟩ : ∃ r, Hid (inB 0 999999 t = r) := ⟨_, rfl⟩
  have HR := Lib.hid (show (x1 && x0 && x2 && x3 && x4) = frameB p b v t by
    rw [← H1.out, ← H0.out, ← H2.out, ← H3.out, ← H4.out]
    have : (inB 0 999999 p && decide (0 < p)) = inB 1 999999 p := by unfold inB; rw [Bool.eq_iff_iff]; simp; omega
    rw [this]; rfl)
  have h0 := H0.out
  clear H0
  cases x1 <;> cases x0 <;> cases x2 <;> cases x3 <;> cases x4 <;> (
    go_enter Try.func58, Try.ntmps58
    go_wp2_with (first
      | (go_at_call 83; refine (isPosition_c _ _).mono ?_; rintro e w' ⟨rfl, rfl⟩; rw [H1.out])
      | (go_at_call 100; refine (isBlock_c _ _).mono ?_; rintro e w' ⟨rfl, rfl⟩; rw [H2.out])
      | (go_at_call 82; refine (isValue_c _ _).mono ?_; rintro e w' ⟨rfl, rfl⟩; rw [H3.out])
      | (go_at_call 94; refine (isTime_c _ _).mono ?_; rintro e w' ⟨rfl, rfl⟩; rw [H4.out]))
    go_ret
    exact ⟨ret_bool HR.out, (Nx.refl _).alloc _⟩)
end Go.Proofs.Ytjefjngheolmkaa
/- Words on lists of ints in memory; contracts of the laws' functions on lists of ints, and of ContentOK, as the model and as the program have it. Conditions: what is read can be read, and holds at most 1048576 elements. -/
namespace Go.Proofs.Ytjefjngheolmkaa
set_option linter.unusedVariables false
set_option maxRecDepth 100000
open Go.RowKit

def inAt (xs : List Int) (i : Nat) : Value := .int .i64 (xs.getD i 0)
/-- A list of ints that is read. -/
def Ins (w : World) (B : Nat) (A : Option Addr) (xs : List Int) : Prop := Row w B A xs.length (inAt xs)
theorem Ins.below {w w' : World} {B B' : Nat} {A : Option Addr} {xs : List Int} (h : Ins w B A xs) (hb : Below B' w w') (hB : B ≤ B') : Ins w' B A xs := Row.below h hb hB
theorem Ins.more {w : World} {B B' : Nat} {A : Option Addr} {xs : List Int} (h : Ins w B A xs) (hB : B ≤ B') : Ins w B' A xs := Row.more h hB
theorem Ins.at_ {w : World} {B k : Nat} {A : Option Addr} {xs : List Int} (h : Ins w B A xs) (hk : k < xs.length) :
    ∃ b off, A = some ⟨b, off, none⟩ ∧ b < B ∧ w.cell? ⟨b, off + k, none⟩ = some (.int .i64 (xs.getD k 0)) := by
  obtain ⟨b, off, e, hb, hc⟩ := h (by omega)
  exact ⟨b, off, e, hb, hc k hk⟩
/-- A list of ints in a block of the call's own. -/
abbrev SlI (w : World) (lo : Nat) (A : Option Addr) (xs : List Int) : Prop := Sl w lo A 3 xs.length (inAt xs)
def RetI (w : World) (xs : List Int) (e : Ending) (w' : World) : Prop := ∃ (A : Option Addr) (c : Nat), e = .returned (.slice A xs.length c) ∧ SlI w' w.heap.size A xs ∧ Nx w w'
theorem info_int : (Try.prog.info? 3).map (fun i => (i.zero, i.size, i.bytes)) = some (some (.int .i64 0), 1, 8) := by kernel_rfl

set_option maxHeartbeats 1000000 in
theorem toIntS_c (A : Option Addr) (c B : Nat) (xs : List Int) (w : World) (h : Ins w B A xs) (hB : B ≤ w.heap.size) (hn : xs.length ≤ 1048576) :
    Calls Try.prog 16 #[.slice A xs.length c] w (RetI w xs) := by
  obtain ⟨i0, hi0, hz0, hz1, hz2⟩ := info_parts info_int
  have hmk := fun W => run_make_rowN (P := Try.prog) 34 3 i0 _ Try.underlying34 hi0 hz0 .i64 .i64 xs.length xs.length (Nat.le_refl _) (by rw [hz2]; omega) (by omega) W
  rw [hz1] at hmk
  have hmade := Own.made w #[Value.int .i64 0] xs.length 3
  go_enter Try.func16, Try.ntmps16
  go_wp2
  go_loopw [4] (fun i wr => ∃ k : Nat, k ≤ xs.length ∧ i = .int .i64 k ∧ Fill wr w.heap.size 3 xs.length k (inAt xs) ∧ Nx w wr) (fun i _ => xs.length - (intOf i).toNat)
  case atStart => exact ⟨0, Nat.zero_le _, rfl, Fill.start hmade, (Nx.refl _).alloc _⟩
  case round =>
    obtain ⟨k, hk, rfl, hf, hnx⟩ := hrel
    by_cases hlt : k < xs.length
    · obtain ⟨b, off, rfl, hb, hc⟩ := (h.below hnx hB).at_ hlt
      obtain ⟨v, hv⟩ := hf.some_ hlt
      have hz := hf.frozen k
      clear hmk hmade
      obtain ⟨s, Hs⟩ : ∃ s, Hid (xs.getD k 0 = s) := ⟨_, rfl⟩
      rw [Hs.out] at hc
      go_wp2
      go_roundw
      case rel => exact ⟨k + 1, by omega, by go_num, hf.step hlt (by unfold inAt; rw [Hs.out]), hnx.setCell (Nat.le_refl _) _⟩
      case measure => simp [intOf]; omega
    · obtain rfl : k = xs.length := by omega
      go_wp2
      go_ret
      exact ⟨_, _, rfl, Sl.own hf.done (Nat.le_refl _), hnx⟩

set_option maxHeartbeats 1000000 in
theorem eqIntS_c (A A2 : Option Addr) (c c2 B : Nat) (xs : List Int) (w : World) (h : Ins w B A xs) (h2 : Ins w B A2 xs) (hB : B ≤ w.heap.size) (hn : xs.length ≤ 1048576) :
    Calls Try.prog 19 #[.slice A xs.length c, .slice A2 xs.length c2] w fun e w' => e = .returned (.bool true) ∧ Nx w w' := by
  go_enter Try.func19, Try.ntmps19
  go_wp2
  go_loopw [5] (fun i wr => ∃ k : Nat, k ≤ xs.length ∧ i = .int .i64 k ∧ Nx w wr) (fun i _ => xs.length - (intOf i).toNat)
  case atStart => exact ⟨0, Nat.zero_le _, rfl, Nx.refl _⟩
  case round =>
    obtain ⟨k, hk, rfl, hnx⟩ := hrel
    by_cases hlt : k < xs.length
    · obtain ⟨b, off, rfl, hb, hc⟩ := (h.below hnx hB).at_ hlt
      obtain ⟨b2, off2, rfl, hb2, hc2⟩ := (h2.below hnx hB).at_ hlt
      generalize xs.getD k 0 = s at hc hc2
      go_wp2
      go_quiet (fail)
      go_wp2
      go_roundw
      case rel => exact ⟨k + 1, by omega, by go_num, hnx.drewN _⟩
      case measure => simp [intOf]; omega
    · go_wp2
      go_ret
      exact ⟨rfl, hnx⟩

def mkAt (k i : Nat) : Value := .int .i64 ((k + i : Nat) : Int)
def FillI (w : World) (lo hi : Nat) (A : Option Addr) (n j k : Nat) : Prop := 0 < n → ∃ g, A = some ⟨g, 0, none⟩ ∧ lo ≤ g ∧ g < hi ∧ Fill w g 3 n j (mkAt k)
set_option maxHeartbeats 1000000 in
theorem markIntS_c (A : Option Addr) (n c k lo hi : Nat) (f : Nat → Value) (w : World) (h : Sr w lo hi A 3 n f) (hn : n ≤ 1048576) (hk : k ≤ 1048576) :
    Calls Try.prog 20 #[.slice A n c, .int .i64 k] w fun e w' => e = .returned (.int .i64 ((k + n : Nat) : Int)) ∧ Sr w' lo hi A 3 n (mkAt k) ∧ Rg lo hi w w' := by
  have HS : FillI w lo hi A n 0 k := fun hn0 => by
    obtain ⟨g, e, h1, h2, ho⟩ := h (by omega)
    exact ⟨g, e, h1, h2, Fill.start ho⟩
  go_enter Try.func20, Try.ntmps20
  go_wp2
  go_loopw [1, 5] (fun q i wr => ∃ j : Nat, j ≤ n ∧ i = .int .i64 j ∧ q = .int .i64 ((k + j : Nat) : Int) ∧ FillI wr lo hi A n j k ∧ Rg lo hi w wr) (fun _ i _ => n - (intOf i).toNat)
  case atStart => exact ⟨0, Nat.zero_le _, rfl, rfl, HS, Rg.of_nx (Nx.refl _)⟩
  case round =>
    obtain ⟨j, hj, rfl, rfl, hf, hrg⟩ := hrel
    clear HS
    by_cases hlt : j < n
    · obtain ⟨g, rfl, hg1, hg2, hfill⟩ := hf (by omega)
      obtain ⟨v0, hv0⟩ := hfill.some_ (i := j) (by omega)
      have hz0 := hfill.frozen j
      clear hf
      go_wp2
      go_roundw
      case rel => exact ⟨j + 1, by omega, by go_num, by go_num, fun _ => ⟨g, rfl, hg1, hg2, hfill.step hlt rfl⟩, hrg.setCell hg1 hg2 _⟩
      case measure => simp [intOf]; omega
    · obtain rfl : j = n := by omega
      go_wp2
      go_ret
      refine ⟨rfl, fun hn0 => ?_, hrg⟩
      obtain ⟨g, e, h1, h2, ho⟩ := hf (by omega)
      exact ⟨g, e, h1, h2, ho.done⟩
set_option maxHeartbeats 1000000 in
theorem heldIntS_c (A : Option Addr) (n c k B : Nat) (w : World) (h : Row w B A n (mkAt k)) (hn : n ≤ 1048576) (hk : k ≤ 1048576) :
    Calls Try.prog 29 #[.slice A n c, .int .i64 k] w fun e w' => e = .returned (.int .i64 ((k + n : Nat) : Int)) ∧ w = w' := by
  go_enter Try.func29, Try.ntmps29
  go_wp2
  go_loop [1, 5] (fun q i => ∃ j : Nat, j ≤ n ∧ i = .int .i64 j ∧ q = .int .i64 ((k + j : Nat) : Int)) (fun _ i => n - (intOf i).toNat)
  case atStart => exact ⟨0, Nat.zero_le _, rfl, rfl⟩
  case round =>
    obtain ⟨j, hj, rfl, rfl⟩ := hrel
    by_cases hlt : j < n
    · obtain ⟨b, off, rfl, hb, hc⟩ := h (by omega)
      have c0 : w.cell? ⟨b, off + j, none⟩ = some (.int .i64 ((k + j : Nat) : Int)) := hc j hlt
      obtain ⟨q, Hq⟩ : ∃ q, Hid (k + j = q) := ⟨_, rfl⟩
      have hq9 : q ≤ 8000000 := by have := Hq.out; omega
      rw [Hq.out] at c0 ⊢
      clear hc
      go_wp2
      go_round
      case rel => exact ⟨j + 1, by omega, by go_num, by rw [show k + (j + 1) = q + 1 by have := Hq.out; omega]; go_num⟩
      case measure => simp [intOf]; omega
    · obtain rfl : j = n := by omega
      go_wp2
      go_ret
      exact ⟨rfl, rfl⟩

/-- What a content is. -/
def contB (xs : List Int) : Bool := decide (xs.length = 8) && xs.all (inB 0 999999)
def InTo (xs : List Int) (k : Nat) : Prop := ∀ j, j < k → inB 0 999999 (xs.getD j 0) = true
theorem InTo.zero (xs : List Int) : InTo xs 0 := fun j h => absurd h (by omega)
theorem InTo.succ {xs : List Int} {k : Nat} (h : InTo xs k) (hk : inB 0 999999 (xs.getD k 0) = true) : InTo xs (k + 1) := fun j hj => by
  rcases Nat.lt_or_ge j k with hlt | hge
  · exact h j hlt
  · obtain rfl : j = k := by omega
    exact hk
theorem InTo.all {xs : List Int} (h : InTo xs xs.length) : xs.all (inB 0 999999) = true := List.all_eq_true.2 fun x hx => by
  obtain ⟨j, hj, rfl⟩ := List.mem_iff_getElem.1 hx
  have := h j hj
  rwa [List.getD_eq_getElem?_getD, List.getElem?_eq_getElem hj] at this
theorem contB_no {xs : List Int} {k : Nat} (hk : k < xs.length) (h : inB 0 999999 (xs.getD k 0) = false) : contB xs = false := by
  unfold contB
  rw [show xs.all (inB 0 999999) = false from List.all_eq_false.2 ⟨xs[k], List.getElem_mem _, by rw [List.getD_eq_getElem?_getD, List.getElem?_eq_getElem hk] at h; simp only [Option.getD_some] at h; simp [h]⟩]
  simp
theorem contB_len {xs : List Int} (h : xs.length ≠ 8) : contB xs = false := by unfold contB; rw [decide_eq_false h]; rfl
theorem contB_mk {xs : List Int} (h : xs.length = 8) (h2 : InTo xs xs.length) : contB xs = true := by unfold contB; rw [decide_eq_true h, h2.all]; rfl
theorem contB_yes {xs : List Int} (h : contB xs = true) : xs.length = 8 ∧ ∀ k, k < 8 → 0 ≤ xs.getD k 0 ∧ xs.getD k 0 ≤ 999999 := by
  unfold contB at h
  simp only [Bool.and_eq_true, decide_eq_true_eq, List.all_eq_true] at h
  refine ⟨h.1, fun k hk => inB_yes ?_⟩
  have hk' : k < xs.length := by omega
  rw [List.getD_eq_getElem?_getD, List.getElem?_eq_getElem hk']
  exact h.2 _ (List.getElem_mem _)
end Go.Proofs.Ytjefjngheolmkaa
/- Words on segments: lists of changes in memory, what a segment is, and contracts of SegOK, as the model and as the program have it: both answer the same bool. Conditions: the segment can be read, and has at most 1048576 changes. -/
namespace Go.Proofs.Ytjefjngheolmkaa
set_option linter.unusedVariables false
set_option maxRecDepth 100000
open Go.RowKit

/-- A change: block, new value, old value. -/
abbrev Chg := Int × Int × Int
def chZ : Chg := (0, 0, 0)
def chAt (cs : List Chg) (i : Nat) : Value := .int .i64 (if i % 3 = 0 then (cs.getD (i / 3) chZ).1 else if i % 3 = 1 then (cs.getD (i / 3) chZ).2.1 else (cs.getD (i / 3) chZ).2.2)
theorem chAt0 (cs : List Chg) (k : Nat) : chAt cs (k * 3) = .int .i64 (cs.getD k chZ).1 := by
  unfold chAt; rw [if_pos (by omega), show k * 3 / 3 = k by omega]
theorem chAt1 (cs : List Chg) (k : Nat) : chAt cs (k * 3 + 1) = .int .i64 (cs.getD k chZ).2.1 := by
  unfold chAt; rw [if_neg (by omega), if_pos (by omega), show (k * 3 + 1) / 3 = k by omega]
theorem chAt2 (cs : List Chg) (k : Nat) : chAt cs (k * 3 + 2) = .int .i64 (cs.getD k chZ).2.2 := by
  unfold chAt; rw [if_neg (by omega), if_neg (by omega), show (k * 3 + 2) / 3 = k by omega]
/-- A list of changes that is read. -/
def Chs (w : World) (B : Nat) (A : Option Addr) (cs : List Chg) : Prop := Row w B A (cs.length * 3) (chAt cs)
theorem Chs.below {w w' : World} {B B' : Nat} {A : Option Addr} {cs : List Chg} (h : Chs w B A cs) (hb : Below B' w w') (hB : B ≤ B') : Chs w' B A cs := Row.below h hb hB
theorem Chs.at_ {w : World} {B k : Nat} {A : Option Addr} {cs : List Chg} (h : Chs w B A cs) (hk : k < cs.length) :
    ∃ b off, A = some ⟨b, off, none⟩ ∧ b < B ∧ w.cell? ⟨b, off + k * 3, none⟩ = some (.int .i64 (cs.getD k chZ).1) ∧ w.cell? ⟨b, off + k * 3 + 1, none⟩ = some (.int .i64 (cs.getD k chZ).2.1) ∧ w.cell? ⟨b, off + k * 3 + 2, none⟩ = some (.int .i64 (cs.getD k chZ).2.2) := by
  obtain ⟨b, off, e, hb, hc⟩ := h (by omega)
  have h0 := hc (k * 3) (by omega)
  have h1 := hc (k * 3 + 1) (by omega)
  have h2 := hc (k * 3 + 2) (by omega)
  rw [chAt0] at h0
  rw [chAt1] at h1
  rw [chAt2] at h2
  exact ⟨b, off, e, hb, h0, h1, h2⟩
def chB (c : Chg) : Bool := inB 0 7 c.1 && inB 0 999999 c.2.1 && inB 0 999999 c.2.2
def okCh (cs : List Chg) (k : Nat) : Bool := chB (cs.getD k chZ) && (k == 0 || decide ((cs.getD (k - 1) chZ).1 < (cs.getD k chZ).1))
def chsB (cs : List Chg) : Bool := (List.range cs.length).all (okCh cs)
/-- What a segment is. -/
def segB (f t m : Int) (cs : List Chg) : Bool := inB 0 999999 f && inB 0 999999 t && decide (f < t) && inB 0 999999 m && chsB cs
def OkTo (cs : List Chg) (k : Nat) : Prop := ∀ j, j < k → okCh cs j = true
theorem OkTo.zero (cs : List Chg) : OkTo cs 0 := fun j h => absurd h (by omega)
theorem OkTo.succ {cs : List Chg} {k : Nat} (h : OkTo cs k) (hk : okCh cs k = true) : OkTo cs (k + 1) := fun j hj => by
  rcases Nat.lt_or_ge j k with hlt | hge
  · exact h j hlt
  · obtain rfl : j = k := by omega
    exact hk
theorem OkTo.all {cs : List Chg} (h : OkTo cs cs.length) : chsB cs = true := List.all_eq_true.2 fun j hj => h j (by simpa using hj)
theorem chsB_to {cs : List Chg} (h : chsB cs = true) : OkTo cs cs.length := fun j hj => List.all_eq_true.1 h j (by simpa using hj)
theorem chsB_no {cs : List Chg} {k : Nat} (hk : k < cs.length) (h : okCh cs k = false) : chsB cs = false := by
  unfold chsB
  rw [List.all_eq_false]
  exact ⟨k, by simpa using hk, by rw [h]; simp⟩
theorem OkTo.rise {cs : List Chg} {k : Nat} (h : OkTo cs k) : ∀ j, j < k → (j : Int) ≤ (cs.getD j chZ).1 ∧ (cs.getD j chZ).1 ≤ 7 := by
  intro j
  induction j with
  | zero =>
    intro hj
    have h0 := h 0 hj
    unfold okCh chB at h0
    simp only [Bool.and_eq_true] at h0
    exact inB_yes h0.1.1.1
  | succ j ih =>
    intro hj
    have h0 := h (j + 1) hj
    obtain ⟨h1, _⟩ := ih (by omega)
    unfold okCh chB at h0
    simp only [Bool.and_eq_true, Bool.or_eq_true, decide_eq_true_eq, Nat.add_sub_cancel] at h0
    obtain ⟨_, h3⟩ := inB_yes h0.1.1.1
    rcases h0.2 with h2 | h2
    · simp at h2
    · exact ⟨by omega, h3⟩
theorem chsB_len {cs : List Chg} (h : chsB cs = true) : cs.length ≤ 8 := by
  rcases Nat.lt_or_ge 8 cs.length with hl | hl
  · have := (chsB_to h).rise 8 hl
    omega
  · exact hl
theorem segB_no {f t m : Int} {cs : List Chg} (h : inB 0 999998 f = false ∨ inB (f + 1) 999999 t = false ∨ inB 0 999999 f = false ∨ inB 0 999999 t = false ∨ decide (f < t) = false ∨ inB 0 999999 m = false ∨ chsB cs = false) : segB f t m cs = false := by
  rcases h with h | h | h | h | h | h | h
  · unfold segB inB at *
    simp only [Bool.and_eq_false_iff, decide_eq_false_iff_not] at *
    omega
  · unfold segB inB at *
    simp only [Bool.and_eq_false_iff, decide_eq_false_iff_not] at *
    omega
  · unfold segB; rw [h]; rfl
  · unfold segB; rw [h]; simp
  · unfold segB; rw [h]; simp
  · unfold segB; rw [h]; simp
  · unfold segB; rw [h]; simp
theorem segB_mk {f t m : Int} {cs : List Chg} (h1 : 0 ≤ f) (h2 : f < t) (h3 : t ≤ 999999) (h4 : inB 0 999999 m = true) (h5 : chsB cs = true) : segB f t m cs = true := by
  unfold segB
  rw [inB_mk h1 (by omega), inB_mk (by omega) h3, h4, h5, decide_eq_true h2]; rfl

set_option maxHeartbeats 1000000 in
theorem l02Change_c (a b c : Int) (w : World) : Calls Try.prog 90 #[.agg #[.int .i64 a, .int .i64 b, .int .i64 c]] w fun e w' => e = .returned (.bool (chB (a, b, c))) ∧ Nx w w' := by
  obtain ⟨x1, H1⟩ : ∃ r, Hid (inB 0 7 a = r) := ⟨_, rfl⟩
  obtain ⟨x2, H2⟩ : ∃ r, Hid (inB 0 999999 b = r) := ⟨_, rfl⟩
  obtain ⟨x3, H3⟩ : ∃ r, Hid (inB 0 999999 c = r) := ⟨_, rfl⟩
  have HR := Lib.hid (show (x1 && x2 && x3) = chB (a, b, c) by rw [← H1.out, ← H2.out, ← H3.out]; rfl)
  cases x1 <;> cases x2 <;> cases x3 <;> (
    go_enter Try.func90, Try.ntmps90
    go_wp2_with (go_at_call 89; refine (l01In_c _ _ _ _).mono ?_; rintro e w' ⟨rfl, rfl⟩; first | rw [H1.out] | rw [H2.out] | rw [H3.out])
    go_ret
    exact ⟨ret_bool HR.out, (Nx.refl _).alloc _⟩)
set_option maxHeartbeats 1000000 in
theorem changeRight_c (a b c : Int) (w : World) : Calls Try.prog 95 #[.agg #[.int .i64 a, .int .i64 b, .int .i64 c]] w fun e w' => e = .returned (.bool (chB (a, b, c))) ∧ Nx w w' := by
  obtain ⟨x1, H1⟩ : ∃ r, Hid (inB 0 7 a = r) := ⟨_, rfl⟩
  obtain ⟨x2, H2⟩ : ∃ r, Hid (inB 0 999999 b = r) := ⟨_, rfl⟩
  obtain ⟨x3, H3⟩ : ∃ r, Hid (inB 0 999999 c = r) := ⟨_, rfl⟩
  have HR := Lib.hid (show (x1 && x2 && x3) = chB (a, b, c) by rw [← H1.out, ← H2.out, ← H3.out]; rfl)
  cases x1 <;> cases x2 <;> cases x3 <;> (
    go_enter Try.func95, Try.ntmps95
    go_wp2_with (first
      | (go_at_call 100; refine (isBlock_c _ _).mono ?_; rintro e w' ⟨rfl, rfl⟩; rw [H1.out])
      | (go_at_call 82; refine (isValue_c _ _).mono ?_; rintro e w' ⟨rfl, rfl⟩; first | rw [H2.out] | rw [H3.out]))
    go_ret
    exact ⟨ret_bool HR.out, (Nx.refl _).alloc _⟩)
end Go.Proofs.Ytjefjngheolmkaa
/- Laws on append onto an empty slice of the call's own, and on copy into a row of the call's own, whatever the elements' size, nil sources let in. Conditions: at most 1048576 elements of at most 64 bytes each. -/
namespace Go.Proofs.Ytjefjngheolmkaa
set_option linter.unusedVariables false
set_option maxRecDepth 100000
open Go.RowKit

theorem addr_add' (b off i : Nat) : (Addr.mk b off none).add i = ⟨b, off + i, none⟩ := by
  unfold Addr.add
  by_cases h : i = 0
  · subst h; simp
  · simp [h]
def NewRow (w w' : World) (e : TypeId) (size : Nat) (A : Option Addr) (m : Nat) (f : Nat → Value) : Prop :=
  Nx w w' ∧ (0 < m → ∃ g, A = some ⟨g, 0, none⟩ ∧ w.heap.size ≤ g ∧ Own w' g e (m * size) f)
theorem cells_list (N : Nat) (f : Nat → Value) (j : Nat) (u : Value) (h : ((List.range N).map f)[j]? = some u) : j < N ∧ f j = u := by
  rw [List.getElem?_map] at h
  by_cases hj : j < N
  · rw [List.getElem?_range hj] at h
    exact ⟨hj, by simpa using h⟩
  · rw [List.getElem?_eq_none (by simpa using hj)] at h
    cases h

section
variable {P : Program}
theorem run_append_new (w : World) (t ty e : TypeId) (i : TypeInfo) (z : Value) (size bytes : Nat) (ht : P.underlying t = some (.slice e)) (hi : P.info? e = some i) (hz : i.zero = some z) (hsize : i.size = size) (hby : i.bytes = bytes)
    (hsz : 0 < size) (hb64 : bytes ≤ 64) (g0 : Nat) (A : Option Addr) (m c B : Nat) (f : Nat → Value) (hrow : Row w B A (m * size) f) (hm : m ≤ 1048576) :
    ∃ A' c' w', (Builtin.append_ #[t, t] ty #[.slice (some ⟨g0, 0, none⟩) 0 0, .slice A m c]).run P w = .ok (.slice A' m c') w' ∧ NewRow w w' e size A' m f := by
  subst hsize hby
  rcases Nat.eq_zero_or_pos m with h0 | hp
  · subst h0
    refine ⟨some ⟨g0, 0, none⟩, 0, w, ?_, Nx.refl _, fun h => absurd h (by omega)⟩
    rcases A with _ | a
    · simp [Builtin.append_, run_underlying ht, sizeOf, typeInfo, hi, Builtin.lenOf, Builtin.firstCells, storeCells]
    · simp [Builtin.append_, run_underlying ht, sizeOf, typeInfo, hi, Builtin.lenOf, Builtin.firstCells, storeCells, loadCells, loadCellsFrom]
  · have hpos : 0 < m * i.size := Nat.mul_pos hp hsz
    obtain ⟨b, off, rfl, hb, hc⟩ := hrow hpos
    have hgrow := run_append_grow (P := P) w t ty e i z ht hi hz ⟨g0, 0, none⟩ 0 0 [] (by simp) (fun j v h => by simp at h) ⟨b, off, none⟩ m c ((List.range (m * i.size)).map f) (by simp)
      (fun j u h => by
        obtain ⟨hj, rfl⟩ := cells_list _ _ _ _ h
        rw [addr_add']; exact hc j hj) (by omega) (by omega) (growslice_fits (by omega) (by
          have h1 : (0 + m) * i.bytes ≤ 1048576 * 64 := Nat.mul_le_mul (by omega) hb64
          omega))
    rw [Nat.zero_add] at hgrow
    refine ⟨_, _, _, hgrow, ?_, fun _ => ⟨_, rfl, Nat.le_refl _, ?_⟩⟩
    · exact ((Nx.refl w).drew).alloc _
    · refine ⟨_, heap_alloc_new w.drew _, ?_, fun k hk => ?_⟩
      · simp only [Array.size_append, List.size_toArray, List.length_map, List.length_range, List.length_nil]; omega
      · rw [Array.getElem?_append_left (by simp only [Array.size_append, List.size_toArray, List.length_map, List.length_range, List.length_nil]; omega)]
        simp [List.getElem?_range hk]

theorem wp_append_new {o : Oper} {a : Act} {w : World} {K : Act → World → Prop} {Q : Exit → Act → World → Prop} (s x : Operand) (t : TypeId) (ho : o.op = .call { callee := .builtin .append, args := #[s, x], argTypes := #[t, t] })
    (e : TypeId) (i : TypeInfo) (z : Value) (size bytes : Nat) (ht : P.underlying t = some (.slice e)) (hi : P.info? e = some i) (hz : i.zero = some z) (hsize : i.size = size) (hby : i.bytes = bytes)
    (hsz : 0 < size) (hb64 : bytes ≤ 64) (g0 : Nat) (A : Option Addr) (m c B : Nat) (f : Nat → Value) (hs : a.eval s = .slice (some ⟨g0, 0, none⟩) 0 0) (hx : a.eval x = .slice A m c) (hrow : Row w B A (m * size) f) (hm : m ≤ 1048576)
    (h : ∀ A' c' w', NewRow w w' e size A' m f → K (a.put o.dst (.slice A' m c')) w') : o.wp P a w K Q := by
  obtain ⟨A', c', w', hrun, hn⟩ := run_append_new (P := P) w t o.type e i z size bytes ht hi hz hsize hby hsz hb64 g0 A m c B f hrow hm
  unfold Oper.wp execOp
  simp only [ho, resolve, invoke, builtin, Sem.run_bind, Sem.run_pure, Result.andThen_ok, List.map_toArray, List.map_cons, List.map_nil, hs, hx, hrun]
  exact h A' c' w' hn
theorem wpList_append_new {ops : Array Oper} {rest : List Oper} {o : Oper} {a : Act} {w : World} {Q : Exit → Act → World → Prop} (hgd : o.guard = none) (s x : Operand) (t : TypeId) (ho : o.op = .call { callee := .builtin .append, args := #[s, x], argTypes := #[t, t] })
    (e : TypeId) (i : TypeInfo) (z : Value) (size bytes : Nat) (ht : P.underlying t = some (.slice e)) (hi : P.info? e = some i) (hz : i.zero = some z) (hsize : i.size = size) (hby : i.bytes = bytes)
    (hsz : 0 < size) (hb64 : bytes ≤ 64) (g0 : Nat) (A : Option Addr) (m c B : Nat) (f : Nat → Value) (hs : a.eval s = .slice (some ⟨g0, 0, none⟩) 0 0) (hx : a.eval x = .slice A m c) (hrow : Row w B A (m * size) f) (hm : m ≤ 1048576)
    (h : ∀ A' c' w', NewRow w w' e size A' m f → wpList P ops Q rest (a.put o.dst (.slice A' m c')) w') : wpList P ops Q (o :: rest) a w :=
  wpList_plain hgd fun _ hK => wp_append_new s x t ho e i z size bytes ht hi hz hsize hby hsz hb64 g0 A m c B f hs hx hrow hm fun A' c' w' hn => hK _ _ (h A' c' w' hn)
theorem step_append_new {ops : Array Oper} {o : Oper} {a : Act} {w : World} {K : Act → World → Prop} {Q : Exit → Act → World → Prop} {E : Prop} (hgd : o.guard = none) (s x : Operand) (t : TypeId) (ho : o.op = .call { callee := .builtin .append, args := #[s, x], argTypes := #[t, t] })
    (e : TypeId) (i : TypeInfo) (z : Value) (size bytes : Nat) (ht : P.underlying t = some (.slice e)) (hi : P.info? e = some i) (hz : i.zero = some z) (hsize : i.size = size) (hby : i.bytes = bytes)
    (hsz : 0 < size) (hb64 : bytes ≤ 64) (g0 : Nat) (A : Option Addr) (m c B : Nat) (f : Nat → Value) (hs : a.eval s = .slice (some ⟨g0, 0, none⟩) 0 0) (hx : a.eval x = .slice A m c) (hrow : Row w B A (m * size) f) (hm : m ≤ 1048576)
    (h : ∀ A' c' w', NewRow w w' e size A' m f → K (a.put o.dst (.slice A' m c')) w') :
    if Region.wanted o (yielded ops a.tmps) = true then Oper.wp P o a w K Q else E := by
  have hw : Region.wanted o (yielded ops a.tmps) = true := by simp [Region.wanted, hgd]
  rw [if_pos hw]
  exact wp_append_new s x t ho e i z size bytes ht hi hz hsize hby hsz hb64 g0 A m c B f hs hx hrow hm h

/-- copy into a row of the call's own. -/
theorem run_copy_new (w : World) (dT sT ty elem : TypeId) (i : TypeInfo) (size : Nat) (hu : P.underlying dT = some (.slice elem)) (hi : P.info? elem = some i) (hsize : i.size = size)
    (g n cap : Nat) (A : Option Addr) (m c B M : Nat) (t : TypeId) (f f0 : Nat → Value) (ho : Own w g t M f0) (hM : n * size ≤ M) (hmn : m ≤ n) (hrow : Row w B A (m * size) f) (h1 : ∀ k, (f k).oneCell' = true) :
    ∃ w', (Builtin.copy_ #[dT, sT] ty #[.slice (some ⟨g, 0, none⟩) n cap, .slice A m c]).run P w = .ok (goInt m) w' ∧ Own w' g t M (fun k => if k < m * size then f k else f0 k) ∧
      (∀ a, Nx a w → a.heap.size ≤ g → Nx a w') ∧ w'.heap.size = w.heap.size ∧ (∀ k, k ≠ g → w'.heap[k]? = w.heap[k]?) := by
  subst hsize
  have hmin : Nat.min m n = m := Nat.min_eq_left hmn
  rcases Nat.eq_zero_or_pos (m * i.size) with h0 | hp
  · refine ⟨w, ?_, ho.congr (fun k _ => by rw [if_neg (by omega)]), fun _ h _ => h, rfl, fun _ _ => rfl⟩
    rcases A with _ | a
    · simp [Builtin.copy_, run_underlying hu, Builtin.lenOf, Builtin.firstCells, sizeOf, typeInfo, hi, hmin, storeCells]
    · simp [Builtin.copy_, run_underlying hu, Builtin.lenOf, Builtin.firstCells, sizeOf, typeInfo, hi, hmin, storeCells, h0, loadCells, loadCellsFrom]
  · obtain ⟨b, off, rfl, hb, hc⟩ := hrow hp
    obtain ⟨cur, hg, hcM, hcur⟩ := ho
    have hle : m * i.size ≤ n * i.size := Nat.mul_le_mul_right _ hmn
    have hl := run_loadCells_list (P := P) w ⟨b, off, none⟩ ((List.range (m * i.size)).map f) (fun j u h => by
      obtain ⟨hj, rfl⟩ := cells_list _ _ _ _ h
      rw [addr_add']; exact hc j hj)
    have hst := run_storeCells_at P g 0 t ((List.range (m * i.size)).map f) 0 cur w hg (by simp; omega) (fun v hv => by
      simp only [List.mem_map, List.mem_range] at hv
      obtain ⟨k, _, rfl⟩ := hv
      exact h1 k)
    simp only [List.length_map, List.length_range] at hl hst
    refine ⟨_, by
      simp only [Builtin.copy_]
      simp [run_underlying hu, Builtin.lenOf, Builtin.firstCells, sizeOf, typeInfo, hi, hmin, hl]
      rw [hst]; rfl, ?_, ?_, ?_, ?_⟩
    · refine ⟨_, setRow_heap w g cur _ t _ hg, ?_, fun k hk => ?_⟩
      · simp; omega
      · by_cases hkm : k < m * i.size
        · simp [hkm, List.getElem?_append]
        · have h2 : m * i.size + (k - m * i.size) = k := by omega
          simp [hkm, List.getElem?_append, h2, hcur k hk]
    · intro a hna hag
      exact ⟨hna.os, hna.tape, hna.output, by have := hna.size; simpa [World.setRow] using this, fun k hk => (setRow_other w g k _ (by omega)).trans (hna.block k hk)⟩
    · simp [World.setRow]
    · exact fun k hk => setRow_other w g k _ hk
end
end Go.Proofs.Ytjefjngheolmkaa
/- Contracts of the program's functions on arrays of values: a list as an array, an array as a list, an array with what a segment made new or had old. Conditions: the lists and segments can be read; the list has eight elements; the segment is right. -/
namespace Go.Proofs.Ytjefjngheolmkaa
set_option linter.unusedVariables false
set_option maxRecDepth 100000
open Go.RowKit

theorem Box.own {w : World} {g : Nat} {t : TypeId} {cs : Array Value} (h : Box w g t cs) : Own w g t cs.size (fun i => cs[i]!) :=
  ⟨cs, h, Nat.le_refl _, fun i hi => by simp [hi]⟩
theorem inAt_oneF (xs : List Int) (k : Nat) : (inAt xs k).oneCell' = true := rfl
theorem list8 {xs : List Int} (h : xs.length = 8) : ∃ x0 x1 x2 x3 x4 x5 x6 x7, xs = [x0, x1, x2, x3, x4, x5, x6, x7] := by
  match xs, h with
  | [x0, x1, x2, x3, x4, x5, x6, x7], _ => exact ⟨x0, x1, x2, x3, x4, x5, x6, x7, rfl⟩
/-- An array of eight values. -/
def vA (xs : List Int) : Value := .agg #[inAt xs 0, inAt xs 1, inAt xs 2, inAt xs 3, inAt xs 4, inAt xs 5, inAt xs 6, inAt xs 7]
def zA : Array Value := #[.int .i64 0, .int .i64 0, .int .i64 0, .int .i64 0, .int .i64 0, .int .i64 0, .int .i64 0, .int .i64 0]

set_option maxHeartbeats 1000000 in
theorem copyListF_c (A : Option Addr) (c B : Nat) (xs : List Int) (w : World) (h : Ins w B A xs) (hB : B ≤ w.heap.size) (hn : xs.length ≤ 1048576) :
    Calls Try.prog 113 #[.slice A xs.length c] w (RetI w xs) := by
  rcases Nat.eq_zero_or_pos xs.length with hz | hp
  · have h0 : ((xs.length : Int) == 0) = true := by rw [hz]; rfl
    have HZ := Lib.hid hz
    clear hz
    go_enter Try.func113, Try.ntmps113
    go_wp2
    go_ret
    exact ⟨none, 0, by rw [HZ.out]; rfl, fun h => absurd h (by have := HZ.out; omega), Nx.refl _⟩
  have h0 : ((xs.length : Int) == 0) = false := beq_eq_false_iff_ne.2 (by omega)
  obtain ⟨i0, hi0, hz0, hz1, hz2⟩ := info_parts info_int
  have hmk := fun W => run_make_rowN (P := Try.prog) 34 3 i0 _ Try.underlying34 hi0 hz0 .i64 .i64 xs.length xs.length (Nat.le_refl _) (by rw [hz2]; omega) (by omega) W
  rw [hz1, Nat.mul_one] at hmk
  have hmade := Own.made w #[Value.int .i64 0] xs.length 3
  have hnx := (Nx.refl w).alloc (.cells (madeCells #[Value.int .i64 0] xs.length) 3)
  obtain ⟨w1, hrun, ho1, hnx1, _, _⟩ := run_copy_new (P := Try.prog) (w.alloc (.cells (madeCells #[Value.int .i64 0] xs.length) 3)) 34 34 3 3 i0 1 Try.underlying34 hi0 hz1
    w.heap.size xs.length xs.length A xs.length c B xs.length 3 (inAt xs) _ hmade (by omega) (Nat.le_refl _) (by rw [Nat.mul_one]; exact h.below hnx hB) (inAt_oneF xs)
  have hx1 := hnx1 w hnx (Nat.le_refl _)
  have HO := Lib.hid (ho1.congr (f' := inAt xs) (fun k hk => by rw [if_pos (by omega)]))
  clear ho1 hnx1 hmade
  go_enter Try.func113, Try.ntmps113
  go_wp2
  go_ret
  exact ⟨_, _, rfl, Sl.own HO.out (Nat.le_refl _), hx1⟩

/-- The eight cells of an array in a block of the call's own. -/
theorem Own.d8 {w : World} {g : Nat} {t : TypeId} {f : Nat → Value} (h : Own w g t 8 f) : w.cell? ⟨g, 0, none⟩ = some (f 0) ∧ w.cell? ⟨g, 1, none⟩ = some (f 1) ∧ w.cell? ⟨g, 2, none⟩ = some (f 2) ∧ w.cell? ⟨g, 3, none⟩ = some (f 3) ∧ w.cell? ⟨g, 4, none⟩ = some (f 4) ∧ w.cell? ⟨g, 5, none⟩ = some (f 5) ∧ w.cell? ⟨g, 6, none⟩ = some (f 6) ∧ w.cell? ⟨g, 7, none⟩ = some (f 7) :=
  ⟨h.cell (by omega), h.cell (by omega), h.cell (by omega), h.cell (by omega), h.cell (by omega), h.cell (by omega), h.cell (by omega), h.cell (by omega)⟩
def put8 (u : World) (g : Nat) (x0 x1 x2 x3 x4 x5 x6 x7 : Int) : World := (((((((u.setCell ⟨g, 0, none⟩ (.int .i64 x0)).setCell ⟨g, 1, none⟩ (.int .i64 x1)).setCell ⟨g, 2, none⟩ (.int .i64 x2)).setCell ⟨g, 3, none⟩ (.int .i64 x3)).setCell ⟨g, 4, none⟩ (.int .i64 x4)).setCell ⟨g, 5, none⟩ (.int .i64 x5)).setCell ⟨g, 6, none⟩ (.int .i64 x6)).setCell ⟨g, 7, none⟩ (.int .i64 x7)
theorem put8_nx {w u : World} {g : Nat} (hx : Nx w u) (hg : w.heap.size ≤ g) (x0 x1 x2 x3 x4 x5 x6 x7 : Int) : Nx w (put8 u g x0 x1 x2 x3 x4 x5 x6 x7) :=
  (((((((hx.setCell (p := ⟨g, 0, none⟩) hg _).setCell (p := ⟨g, 1, none⟩) hg _).setCell (p := ⟨g, 2, none⟩) hg _).setCell (p := ⟨g, 3, none⟩) hg _).setCell (p := ⟨g, 4, none⟩) hg _).setCell (p := ⟨g, 5, none⟩) hg _).setCell (p := ⟨g, 6, none⟩) hg _).setCell (p := ⟨g, 7, none⟩) hg _
theorem put8_own {u : World} {g : Nat} {t : TypeId} {f : Nat → Value} (h : Own u g t 8 f) (x0 x1 x2 x3 x4 x5 x6 x7 : Int) : Own (put8 u g x0 x1 x2 x3 x4 x5 x6 x7) g t 8 (inAt [x0, x1, x2, x3, x4, x5, x6, x7]) := by
  have q := (((((((h.set (k := 0) (by omega) (.int .i64 x0)).set (k := 1) (by omega) (.int .i64 x1)).set (k := 2) (by omega) (.int .i64 x2)).set (k := 3) (by omega) (.int .i64 x3)).set (k := 4) (by omega) (.int .i64 x4)).set (k := 5) (by omega) (.int .i64 x5)).set (k := 6) (by omega) (.int .i64 x6)).set (k := 7) (by omega) (.int .i64 x7)
  refine q.congr fun i hi => ?_
  match i, hi with
  | 0, _ => rfl
  | 1, _ => rfl
  | 2, _ => rfl
  | 3, _ => rfl
  | 4, _ => rfl
  | 5, _ => rfl
  | 6, _ => rfl
  | 7, _ => rfl

set_option maxRecDepth 100000 in
set_option maxHeartbeats 4000000 in
theorem valuesOf_c (A : Option Addr) (c B : Nat) (xs : List Int) (w : World) (h : Ins w B A xs) (hB : B ≤ w.heap.size) (h8 : xs.length = 8) :
    Calls Try.prog 59 #[.slice A xs.length c] w fun e w' => e = .returned (vA xs) ∧ Nx w w' := by
  obtain ⟨x0, x1, x2, x3, x4, x5, x6, x7, rfl⟩ := list8 h8
  obtain ⟨i0, hi0, hz0, hz1, hz2⟩ := info_parts info_int
  have r0 := (Box.new w 87 zA).alloc (.cells zA 87)
  have b0 := Box.new (w.alloc (.cells zA 87)) 87 zA
  have hx0 := ((Nx.refl w).alloc (.cells zA 87)).alloc (.cells zA 87)
  simp only [World.size_alloc] at b0
  unfold zA at r0 b0 hx0
  go_enter Try.func59, Try.ntmps59
  go_wp2_with fail
  generalize ((w.alloc (.cells #[.int .i64 0, .int .i64 0, .int .i64 0, .int .i64 0, .int .i64 0, .int .i64 0, .int .i64 0, .int .i64 0] 87)).alloc (.cells #[.int .i64 0, .int .i64 0, .int .i64 0, .int .i64 0, .int .i64 0, .int .i64 0, .int .i64 0, .int .i64 0] 87)) = W at *
  obtain ⟨w1, hrun, ho1, hnx1, hsz, hoth⟩ := run_copy_new (P := Try.prog) W 34 34 3 3 i0 1 Try.underlying34 hi0 hz1
    (w.heap.size + 1) 8 8 A 8 c B 8 87 (inAt [x0, x1, x2, x3, x4, x5, x6, x7]) _ b0.own (by omega) (Nat.le_refl _) (h.below hx0 hB) (inAt_oneF _)
  rw [hrun]
  have hx1 := hnx1 w hx0 (by omega)
  have ho := ho1.congr (f' := inAt [x0, x1, x2, x3, x4, x5, x6, x7]) (fun k hk => by rw [if_pos (by omega)])
  have r1 : Box w1 w.heap.size 87 _ := (hoth _ (by omega)).trans r0
  have hlt := ho.lt
  clear hrun ho1 hnx1 hsz hoth hx0 b0 r0 W
  obtain ⟨c0, c1, c2, c3, c4, c5, c6, c7⟩ := ho.d8
  change w1.cell? _ = some (.int .i64 x0) at c0
  change w1.cell? _ = some (.int .i64 x1) at c1
  change w1.cell? _ = some (.int .i64 x2) at c2
  change w1.cell? _ = some (.int .i64 x3) at c3
  change w1.cell? _ = some (.int .i64 x4) at c4
  change w1.cell? _ = some (.int .i64 x5) at c5
  change w1.cell? _ = some (.int .i64 x6) at c6
  change w1.cell? _ = some (.int .i64 x7) at c7
  obtain ⟨s0, s1, s2, s3, s4, s5, s6, s7⟩ := r1.own.d8
  have f0 := r1.frozen 0
  have f1 := r1.frozen 1
  have f2 := r1.frozen 2
  have f3 := r1.frozen 3
  have f4 := r1.frozen 4
  have f5 := r1.frozen 5
  have f6 := r1.frozen 6
  have f7 := r1.frozen 7
  go_wp2_with fail
  have q := put8_own r1.own x0 x1 x2 x3 x4 x5 x6 x7
  have hxf := put8_nx hx1 (Nat.le_refl _) x0 x1 x2 x3 x4 x5 x6 x7
  unfold put8 at q hxf
  generalize (((((((w1.setCell ⟨w.heap.size, 0, none⟩ (.int .i64 x0)).setCell ⟨w.heap.size, 1, none⟩ (.int .i64 x1)).setCell ⟨w.heap.size, 2, none⟩ (.int .i64 x2)).setCell ⟨w.heap.size, 3, none⟩ (.int .i64 x3)).setCell ⟨w.heap.size, 4, none⟩ (.int .i64 x4)).setCell ⟨w.heap.size, 5, none⟩ (.int .i64 x5)).setCell ⟨w.heap.size, 6, none⟩ (.int .i64 x6)).setCell ⟨w.heap.size, 7, none⟩ (.int .i64 x7) = Wf at *
  obtain ⟨g0, g1, g2, g3, g4, g5, g6, g7⟩ := q.d8
  exact bodyPost_ret (v := vA [x0, x1, x2, x3, x4, x5, x6, x7]) (by simp [results, Try.results59, go_sem, g0, g1, g2, g3, g4, g5, g6, g7, vA]) rfl ⟨rfl, hxf⟩
end Go.Proofs.Ytjefjngheolmkaa
/- Contracts of the program's methods of arrays of values: list, forward, backward. Conditions: the segment can be read and is right. -/
namespace Go.Proofs.Ytjefjngheolmkaa
set_option linter.unusedVariables false
set_option maxRecDepth 100000
open Go.RowKit

def pN (c : Chg) : Int := c.2.1
def pO (c : Chg) : Int := c.2.2
/-- A content with what the changes say. -/
def app (p : Chg → Int) (xs : List Int) (cs : List Chg) : List Int := cs.foldl (fun xs c => xs.set c.1.toNat (p c)) xs
theorem app_len (p : Chg → Int) (cs : List Chg) : ∀ xs, (app p xs cs).length = xs.length := by
  induction cs with
  | nil => intro xs; rfl
  | cons c cs ih => intro xs; show (app p (xs.set c.1.toNat (p c)) cs).length = _; rw [ih]; simp
theorem app_succ (p : Chg → Int) (xs : List Int) (cs : List Chg) {k : Nat} (hk : k < cs.length) : app p xs (cs.take (k + 1)) = (app p xs (cs.take k)).set (cs.getD k chZ).1.toNat (p (cs.getD k chZ)) := by
  unfold app
  rw [List.take_succ_eq_append_getElem hk, List.foldl_append, List.getD_eq_getElem?_getD, List.getElem?_eq_getElem hk]
  rfl
theorem inAt_set {ys : List Int} {n i : Nat} (v : Int) (hn : n < ys.length) : inAt (ys.set n v) i = if i = n then .int .i64 v else inAt ys i := by
  unfold inAt
  by_cases h : i = n
  · subst h; rw [if_pos rfl, List.getD_eq_getElem?_getD, List.getElem?_set_self hn]; rfl
  · rw [if_neg h, List.getD_eq_getElem?_getD, List.getD_eq_getElem?_getD, List.getElem?_set_ne (fun e => h e.symm)]
theorem box_inAt {w : World} {g : Nat} {t : TypeId} {xs : List Int} (h : Box w g t #[inAt xs 0, inAt xs 1, inAt xs 2, inAt xs 3, inAt xs 4, inAt xs 5, inAt xs 6, inAt xs 7]) : Own w g t 8 (inAt xs) := by
  refine h.own.congr fun i hi => ?_
  match i, hi with
  | 0, _ => rfl
  | 1, _ => rfl
  | 2, _ => rfl
  | 3, _ => rfl
  | 4, _ => rfl
  | 5, _ => rfl
  | 6, _ => rfl
  | 7, _ => rfl

set_option maxHeartbeats 1000000 in
theorem valuesList_c (xs : List Int) (w : World) (h8 : xs.length = 8) : Calls Try.prog 78 #[vA xs] w (RetI w xs) := by
  have b0 := Box.new w 87 #[inAt xs 0, inAt xs 1, inAt xs 2, inAt xs 3, inAt xs 4, inAt xs 5, inAt xs 6, inAt xs 7]
  have hx0 := (Nx.refl w).alloc (.cells #[inAt xs 0, inAt xs 1, inAt xs 2, inAt xs 3, inAt xs 4, inAt xs 5, inAt xs 6, inAt xs 7] 87)
  unfold vA
  go_enter Try.func78, Try.ntmps78
  have H8 := Lib.hid h8
  clear h8
  go_wp2_with fail
  generalize w.alloc (.cells #[inAt xs 0, inAt xs 1, inAt xs 2, inAt xs 3, inAt xs 4, inAt xs 5, inAt xs 6, inAt xs 7] 87) = W at *
  have hc := copyListF_c (some ⟨w.heap.size, 0, none⟩) 8 W.heap.size xs W (by have := (box_inAt b0).row (B := W.heap.size) b0.lt; unfold Ins; rw [H8.out]; exact this) (Nat.le_refl _) (by rw [H8.out]; omega)
  rw [H8.out] at hc
  refine hc.mono ?_
  rintro e w1 ⟨A1, c1, rfl, hS1, hx1⟩
  go_wp2
  go_ret
  exact ⟨A1, c1, rfl, hS1.low hx0.size, hx0.trans hx1⟩

set_option maxRecDepth 100000 in
set_option maxHeartbeats 4000000 in
theorem valuesForward_c (f t m : Int) (A : Option Addr) (c B : Nat) (cs : List Chg) (xs : List Int) (w : World) (h : Chs w B A cs) (hB : B ≤ w.heap.size) (hok : chsB cs = true) (h8 : xs.length = 8) :
    Calls Try.prog 77 #[vA xs, .agg #[.int .i64 f, .int .i64 t, .int .i64 m, .slice A cs.length c]] w fun e w' => e = .returned (vA (app pN xs cs)) ∧ Nx w w' := by
  have b0 := ((Box.new w 87 #[inAt xs 0, inAt xs 1, inAt xs 2, inAt xs 3, inAt xs 4, inAt xs 5, inAt xs 6, inAt xs 7]).alloc (.cells #[.int .i64 f, .int .i64 t, .int .i64 m, .slice A cs.length c] 30)).alloc (.cells zA 87)
  have r0 := Box.new ((w.alloc (.cells #[inAt xs 0, inAt xs 1, inAt xs 2, inAt xs 3, inAt xs 4, inAt xs 5, inAt xs 6, inAt xs 7] 87)).alloc (.cells #[.int .i64 f, .int .i64 t, .int .i64 m, .slice A cs.length c] 30)) 87 zA
  have hx0 := (((Nx.refl w).alloc (.cells #[inAt xs 0, inAt xs 1, inAt xs 2, inAt xs 3, inAt xs 4, inAt xs 5, inAt xs 6, inAt xs 7] 87)).alloc (.cells #[.int .i64 f, .int .i64 t, .int .i64 m, .slice A cs.length c] 30)).alloc (.cells zA 87)
  simp only [World.size_alloc] at r0
  unfold zA at r0 b0 hx0
  unfold vA
  have H8 := Lib.hid h8
  have hl8 := chsB_len hok
  have hto := chsB_to hok
  clear h8 hok
  go_enter Try.func77, Try.ntmps77
  go_wp2_with fail
  generalize (((w.alloc (.cells #[inAt xs 0, inAt xs 1, inAt xs 2, inAt xs 3, inAt xs 4, inAt xs 5, inAt xs 6, inAt xs 7] 87)).alloc (.cells #[.int .i64 f, .int .i64 t, .int .i64 m, .slice A cs.length c] 30)).alloc (.cells #[.int .i64 0, .int .i64 0, .int .i64 0, .int .i64 0, .int .i64 0, .int .i64 0, .int .i64 0, .int .i64 0] 87)) = W at *
  have hW := r0.lt
  go_loopw [10] (fun i wr => ∃ k : Nat, k ≤ cs.length ∧ i = .int .i64 k ∧ Own wr w.heap.size 87 8 (inAt (app pN xs (cs.take k))) ∧ Box wr (w.heap.size + 1 + 1) 87 #[.int .i64 0, .int .i64 0, .int .i64 0, .int .i64 0, .int .i64 0, .int .i64 0, .int .i64 0, .int .i64 0] ∧ Nx w wr) (fun i _ => cs.length - (intOf i).toNat)
  case atStart => exact ⟨0, Nat.zero_le _, rfl, box_inAt b0, r0, hx0⟩
  case round =>
    obtain ⟨k, hk, rfl, hown, hbox, hnx⟩ := hrel
    clear b0 r0 hx0
    by_cases hlt : k < cs.length
    · obtain ⟨b, off, rfl, hb, k0, k1, k2⟩ := (h.below hnx hB).at_ hlt
      obtain ⟨hr0, hr1⟩ := hto.rise k hlt
      obtain ⟨⟨q0, q1, q2⟩, Hq⟩ : ∃ q, Hid (cs.getD k chZ = q) := ⟨_, rfl⟩
      rw [Hq.out] at k0 k1 k2 hr0 hr1
      obtain ⟨n0, rfl⟩ : ∃ n : Nat, q0 = n := ⟨q0.toNat, by simp only at hr0; omega⟩
      have hn0 : n0 < 8 := by simp only at hr1; omega
      clear hr0 hr1
      obtain ⟨v, hv⟩ : ∃ v, wr.cell? ⟨w.heap.size, n0, none⟩ = some v := ⟨_, hown.cell hn0⟩
      have hz := hown.frozen n0
      have hlt2 : w.heap.size < wr.heap.size := hown.lt
      go_wp2
      go_roundw
      case rel =>
        have hal := (hown.set (k := n0) hn0 (.int .i64 q1)).alloc (.cells #[.int .i64 (n0 : Int), .int .i64 q1, .int .i64 q2] 75)
        refine ⟨k + 1, by omega, by go_num, hal.congr fun i hi => ?_, (hbox.far (p := ⟨w.heap.size, n0, none⟩) (by simp; omega) _).alloc _, (hnx.setCell (p := ⟨w.heap.size, n0, none⟩) (Nat.le_refl _) _).alloc _⟩
        rw [app_succ pN xs cs hlt, Hq.out]
        rw [inAt_set _ (by rw [app_len, H8.out]; simpa using hn0)]
        simp [pN]
      case measure => simp [intOf]; omega
    · obtain rfl : k = cs.length := by omega
      rw [List.take_length] at hown
      obtain ⟨y0, y1, y2, y3, y4, y5, y6, y7, hy⟩ := list8 (show (app pN xs cs).length = 8 by rw [app_len, H8.out])
      rw [hy] at hown
      have Hy := Lib.hid hy
      clear hy
      obtain ⟨c0, c1, c2, c3, c4, c5, c6, c7⟩ := hown.d8
      change wr.cell? _ = some (.int .i64 y0) at c0
      change wr.cell? _ = some (.int .i64 y1) at c1
      change wr.cell? _ = some (.int .i64 y2) at c2
      change wr.cell? _ = some (.int .i64 y3) at c3
      change wr.cell? _ = some (.int .i64 y4) at c4
      change wr.cell? _ = some (.int .i64 y5) at c5
      change wr.cell? _ = some (.int .i64 y6) at c6
      change wr.cell? _ = some (.int .i64 y7) at c7
      obtain ⟨s0, s1, s2, s3, s4, s5, s6, s7⟩ := hbox.own.d8
      have f0 := hbox.frozen 0
      have f1 := hbox.frozen 1
      have f2 := hbox.frozen 2
      have f3 := hbox.frozen 3
      have f4 := hbox.frozen 4
      have f5 := hbox.frozen 5
      have f6 := hbox.frozen 6
      have f7 := hbox.frozen 7
      go_wp2_with fail
      have q := put8_own hbox.own y0 y1 y2 y3 y4 y5 y6 y7
      have hxf := put8_nx (g := w.heap.size + 1 + 1) hnx (by omega) y0 y1 y2 y3 y4 y5 y6 y7
      unfold put8 at q hxf
      generalize (((((((wr.setCell ⟨w.heap.size + 1 + 1, 0, none⟩ (.int .i64 y0)).setCell ⟨w.heap.size + 1 + 1, 1, none⟩ (.int .i64 y1)).setCell ⟨w.heap.size + 1 + 1, 2, none⟩ (.int .i64 y2)).setCell ⟨w.heap.size + 1 + 1, 3, none⟩ (.int .i64 y3)).setCell ⟨w.heap.size + 1 + 1, 4, none⟩ (.int .i64 y4)).setCell ⟨w.heap.size + 1 + 1, 5, none⟩ (.int .i64 y5)).setCell ⟨w.heap.size + 1 + 1, 6, none⟩ (.int .i64 y6)).setCell ⟨w.heap.size + 1 + 1, 7, none⟩ (.int .i64 y7) = Wf at *
      obtain ⟨g0, g1, g2, g3, g4, g5, g6, g7⟩ := q.d8
      exact bodyPost_ret (v := vA [y0, y1, y2, y3, y4, y5, y6, y7]) (by simp [results, Try.results77, go_sem, g0, g1, g2, g3, g4, g5, g6, g7, vA]) rfl ⟨congrArg Ending.returned (by show vA _ = vA _; rw [Hy.out]), hxf⟩

set_option maxRecDepth 100000 in
set_option maxHeartbeats 4000000 in
theorem valuesBackward_c (f t m : Int) (A : Option Addr) (c B : Nat) (cs : List Chg) (xs : List Int) (w : World) (h : Chs w B A cs) (hB : B ≤ w.heap.size) (hok : chsB cs = true) (h8 : xs.length = 8) :
    Calls Try.prog 81 #[vA xs, .agg #[.int .i64 f, .int .i64 t, .int .i64 m, .slice A cs.length c]] w fun e w' => e = .returned (vA (app pO xs cs)) ∧ Nx w w' := by
  have b0 := ((Box.new w 87 #[inAt xs 0, inAt xs 1, inAt xs 2, inAt xs 3, inAt xs 4, inAt xs 5, inAt xs 6, inAt xs 7]).alloc (.cells #[.int .i64 f, .int .i64 t, .int .i64 m, .slice A cs.length c] 30)).alloc (.cells zA 87)
  have r0 := Box.new ((w.alloc (.cells #[inAt xs 0, inAt xs 1, inAt xs 2, inAt xs 3, inAt xs 4, inAt xs 5, inAt xs 6, inAt xs 7] 87)).alloc (.cells #[.int .i64 f, .int .i64 t, .int .i64 m, .slice A cs.length c] 30)) 87 zA
  have hx0 := (((Nx.refl w).alloc (.cells #[inAt xs 0, inAt xs 1, inAt xs 2, inAt xs 3, inAt xs 4, inAt xs 5, inAt xs 6, inAt xs 7] 87)).alloc (.cells #[.int .i64 f, .int .i64 t, .int .i64 m, .slice A cs.length c] 30)).alloc (.cells zA 87)
  simp only [World.size_alloc] at r0
  unfold zA at r0 b0 hx0
  unfold vA
  have H8 := Lib.hid h8
  have hl8 := chsB_len hok
  have hto := chsB_to hok
  clear h8 hok
  go_enter Try.func81, Try.ntmps81
  go_wp2_with fail
  generalize (((w.alloc (.cells #[inAt xs 0, inAt xs 1, inAt xs 2, inAt xs 3, inAt xs 4, inAt xs 5, inAt xs 6, inAt xs 7] 87)).alloc (.cells #[.int .i64 f, .int .i64 t, .int .i64 m, .slice A cs.length c] 30)).alloc (.cells #[.int .i64 0, .int .i64 0, .int .i64 0, .int .i64 0, .int .i64 0, .int .i64 0, .int .i64 0, .int .i64 0] 87)) = W at *
  have hW := r0.lt
  go_loopw [10] (fun i wr => ∃ k : Nat, k ≤ cs.length ∧ i = .int .i64 k ∧ Own wr w.heap.size 87 8 (inAt (app pO xs (cs.take k))) ∧ Box wr (w.heap.size + 1 + 1) 87 #[.int .i64 0, .int .i64 0, .int .i64 0, .int .i64 0, .int .i64 0, .int .i64 0, .int .i64 0, .int .i64 0] ∧ Nx w wr) (fun i _ => cs.length - (intOf i).toNat)
  case atStart => exact ⟨0, Nat.zero_le _, rfl, box_inAt b0, r0, hx0⟩
  case round =>
    obtain ⟨k, hk, rfl, hown, hbox, hnx⟩ := hrel
    clear b0 r0 hx0
    by_cases hlt : k < cs.length
    · obtain ⟨b, off, rfl, hb, k0, k1, k2⟩ := (h.below hnx hB).at_ hlt
      obtain ⟨hr0, hr1⟩ := hto.rise k hlt
      obtain ⟨⟨q0, q1, q2⟩, Hq⟩ : ∃ q, Hid (cs.getD k chZ = q) := ⟨_, rfl⟩
      rw [Hq.out] at k0 k1 k2 hr0 hr1
      obtain ⟨n0, rfl⟩ : ∃ n : Nat, q0 = n := ⟨q0.toNat, by simp only at hr0; omega⟩
      have hn0 : n0 < 8 := by simp only at hr1; omega
      clear hr0 hr1
      obtain ⟨v, hv⟩ : ∃ v, wr.cell? ⟨w.heap.size, n0, none⟩ = some v := ⟨_, hown.cell hn0⟩
      have hz := hown.frozen n0
      have hlt2 : w.heap.size < wr.heap.size := hown.lt
      go_wp2
      go_roundw
      case rel =>
        have hal := (hown.set (k := n0) hn0 (.int .i64 q2)).alloc (.cells #[.int .i64 (n0 : Int), .int .i64 q1, .int .i64 q2] 75)
        refine ⟨k + 1, by omega, by go_num, hal.congr fun i hi => ?_, (hbox.far (p := ⟨w.heap.size, n0, none⟩) (by simp; omega) _).alloc _, (hnx.setCell (p := ⟨w.heap.size, n0, none⟩) (Nat.le_refl _) _).alloc _⟩
        rw [app_succ pO xs cs hlt, Hq.out]
        rw [inAt_set _ (by rw [app_len, H8.out]; simpa using hn0)]
        simp [pO]
      case measure => simp [intOf]; omega
    · obtain rfl : k = cs.length := by omega
      rw [List.take_length] at hown
      obtain ⟨y0, y1, y2, y3, y4, y5, y6, y7, hy⟩ := list8 (show (app pO xs cs).length = 8 by rw [app_len, H8.out])
      rw [hy] at hown
      have Hy := Lib.hid hy
      clear hy
      obtain ⟨c0, c1, c2, c3, c4, c5, c6, c7⟩ := hown.d8
      change wr.cell? _ = some (.int .i64 y0) at c0
      change wr.cell? _ = some (.int .i64 y1) at c1
      change wr.cell? _ = some (.int .i64 y2) at c2
      change wr.cell? _ = some (.int .i64 y3) at c3
      change wr.cell? _ = some (.int .i64 y4) at c4
      change wr.cell? _ = some (.int .i64 y5) at c5
      change wr.cell? _ = some (.int .i64 y6) at c6
      change wr.cell? _ = some (.int .i64 y7) at c7
      obtain ⟨s0, s1, s2, s3, s4, s5, s6, s7⟩ := hbox.own.d8
      have f0 := hbox.frozen 0
      have f1 := hbox.frozen 1
      have f2 := hbox.frozen 2
      have f3 := hbox.frozen 3
      have f4 := hbox.frozen 4
      have f5 := hbox.frozen 5
      have f6 := hbox.frozen 6
      have f7 := hbox.frozen 7
      go_wp2_with fail
      have q := put8_own hbox.own y0 y1 y2 y3 y4 y5 y6 y7
      have hxf := put8_nx (g := w.heap.size + 1 + 1) hnx (by omega) y0 y1 y2 y3 y4 y5 y6 y7
      unfold put8 at q hxf
      generalize (((((((wr.setCell ⟨w.heap.size + 1 + 1, 0, none⟩ (.int .i64 y0)).setCell ⟨w.heap.size + 1 + 1, 1, none⟩ (.int .i64 y1)).setCell ⟨w.heap.size + 1 + 1, 2, none⟩ (.int .i64 y2)).setCell ⟨w.heap.size + 1 + 1, 3, none⟩ (.int .i64 y3)).setCell ⟨w.heap.size + 1 + 1, 4, none⟩ (.int .i64 y4)).setCell ⟨w.heap.size + 1 + 1, 5, none⟩ (.int .i64 y5)).setCell ⟨w.heap.size + 1 + 1, 6, none⟩ (.int .i64 y6)).setCell ⟨w.heap.size + 1 + 1, 7, none⟩ (.int .i64 y7) = Wf at *
      obtain ⟨g0, g1, g2, g3, g4, g5, g6, g7⟩ := q.d8
      exact bodyPost_ret (v := vA [y0, y1, y2, y3, y4, y5, y6, y7]) (by simp [results, Try.results81, go_sem, g0, g1, g2, g3, g4, g5, g6, g7, vA]) rfl ⟨congrArg Ending.returned (by show vA _ = vA _; rw [Hy.out]), hxf⟩
end Go.Proofs.Ytjefjngheolmkaa
/- Contracts of ContentOK, as the model and as the program have it: both answer the same bool. Conditions: the list can be read, and holds at most 1048576 elements. -/
namespace Go.Proofs.Ytjefjngheolmkaa
set_option linter.unusedVariables false
set_option maxRecDepth 100000
open Go.RowKit

set_option maxHeartbeats 1000000 in
theorem specContentOK_c (A : Option Addr) (c B : Nat) (xs : List Int) (w : World) (h : Ins w B A xs) (hB : B ≤ w.heap.size) (hn : xs.length ≤ 1048576) :
    Calls Try.prog 54 #[.slice A xs.length c] w fun e w' => e = .returned (.bool (contB xs)) ∧ Nx w w' := by
  by_cases hl : 4096 < xs.length
  · have hd : decide (4096 < (xs.length : Int)) = true := by simp; omega
    have HR := Lib.hid (contB_len (xs := xs) (by omega)).symm
    go_enter Try.func54, Try.ntmps54
    go_wp2
    go_ret
    exact ⟨ret_bool HR.out, Nx.refl _⟩
  have hd : decide (4096 < (xs.length : Int)) = false := by simp; omega
  go_enter Try.func54, Try.ntmps54
  go_wp2
  go_loopw [3] (fun i wr => ∃ k : Nat, k ≤ xs.length ∧ i = .int .i64 k ∧ InTo xs k ∧ Nx w wr) (fun i _ => xs.length - (intOf i).toNat)
  case atStart => exact ⟨0, Nat.zero_le _, rfl, InTo.zero _, Nx.refl _⟩
  case round =>
    obtain ⟨k, hk, rfl, hto, hnx⟩ := hrel
    by_cases hlt : k < xs.length
    · obtain ⟨b, off, rfl, hb, hc⟩ := (h.below hnx hB).at_ hlt
      obtain ⟨s, Hs⟩ : ∃ s, Hid (xs.getD k 0 = s) := ⟨_, rfl⟩
      rw [Hs.out] at hc
      cases hx : inB 0 999999 s with
      | false =>
        have HX := Lib.hid hx
        have HR := Lib.hid (contB_no hlt (by rw [Hs.out]; exact hx)).symm
        clear hx
        go_wp2_with (go_at_call 89; refine (l01In_c _ _ _ _).mono ?_; rintro e w' ⟨rfl, rfl⟩; rw [HX.out])
        go_ret
        exact ⟨ret_bool HR.out, hnx⟩
      | true =>
        have HX := Lib.hid hx
        clear hx
        go_wp2_with (go_at_call 89; refine (l01In_c _ _ _ _).mono ?_; rintro e w' ⟨rfl, rfl⟩; rw [HX.out])
        go_roundw
        case rel => exact ⟨k + 1, by omega, by go_num, hto.succ (by rw [Hs.out]; exact HX.out), hnx⟩
        case measure => simp [intOf]; omega
    · obtain rfl : k = xs.length := by omega
      by_cases h8 : xs.length = 8
      · have HR := Lib.hid (contB_mk h8 hto).symm
        have he : ((xs.length : Int) == 8) = true := by rw [h8]; rfl
        go_wp2
        go_ret
        exact ⟨ret_bool HR.out, hnx⟩
      · have HR := Lib.hid (contB_len h8).symm
        have he : ((xs.length : Int) == 8) = false := by simp; omega
        go_wp2
        go_ret
        exact ⟨ret_bool HR.out, hnx⟩

set_option maxHeartbeats 1000000 in
theorem implContentOK_c (A : Option Addr) (c B : Nat) (xs : List Int) (w : World) (h : Ins w B A xs) (hB : B ≤ w.heap.size) (hn : xs.length ≤ 1048576) :
    Calls Try.prog 39 #[.slice A xs.length c] w fun e w' => e = .returned (.bool (contB xs)) ∧ Nx w w' := by
  by_cases h8 : xs.length = 8
  case neg =>
    have hd : ((xs.length : Int) != 8) = true := by simp; omega
    have HR := Lib.hid (contB_len (xs := xs) h8).symm
    go_enter Try.func39, Try.ntmps39
    go_wp2
    go_ret
    exact ⟨ret_bool HR.out, Nx.refl _⟩
  have hd : ((xs.length : Int) != 8) = false := by simp; omega
  have H8 := Lib.hid h8
  clear h8
  go_enter Try.func39, Try.ntmps39
  go_wp2
  go_loopw [4, 10] (fun v i wr => ∃ k : Nat, k ≤ xs.length ∧ i = .int .i64 k ∧ InTo xs k ∧ Nx w wr) (fun _ i _ => xs.length - (intOf i).toNat)
  case atStart => exact ⟨0, Nat.zero_le _, rfl, InTo.zero _, Nx.refl _⟩
  case round =>
    obtain ⟨k, hk, rfl, hto, hnx⟩ := hrel
    by_cases hlt : k < xs.length
    · obtain ⟨b, off, rfl, hb, hc⟩ := (h.below hnx hB).at_ hlt
      obtain ⟨s, Hs⟩ : ∃ s, Hid (xs.getD k 0 = s) := ⟨_, rfl⟩
      rw [Hs.out] at hc
      cases hx : inB 0 999999 s with
      | false =>
        have HX := Lib.hid hx
        have HR := Lib.hid (contB_no hlt (by rw [Hs.out]; exact hx)).symm
        clear hx
        go_wp2_with (go_at_call 82; refine (isValue_c _ _).mono ?_; rintro e w' ⟨rfl, rfl⟩; rw [HX.out])
        go_ret
        exact ⟨ret_bool HR.out, hnx⟩
      | true =>
        have HX := Lib.hid hx
        clear hx
        go_wp2_with (go_at_call 82; refine (isValue_c _ _).mono ?_; rintro e w' ⟨rfl, rfl⟩; rw [HX.out])
        go_roundw
        case rel => exact ⟨k + 1, by omega, by go_num, hto.succ (by rw [Hs.out]; exact HX.out), hnx⟩
        case measure => simp [intOf]; omega
    · obtain rfl : k = xs.length := by omega
      have HR := Lib.hid (contB_mk H8.out hto).symm
      go_wp2
      go_ret
      exact ⟨ret_bool HR.out, hnx⟩
end Go.Proofs.Ytjefjngheolmkaa
/- A region that draws its order, walked once, in the order of its text: what only reads cells that stay as they are (S) is taken first, a call comes up when nothing else may. Conditions: those of each theorem. -/
namespace Go.Proofs.Ytjefjngheolmkaa
set_option linter.unusedVariables false
set_option maxRecDepth 100000
open Go.RowKit
section
variable {P : Program} {ops : Array Oper} {Q : Exit → Act → World → Prop} {S : World → Prop}
/-- The walk: of each operation a mark: true: a call that is met by its contract. -/
def HL (P : Program) (ops : Array Oper) (Q : Exit → Act → World → Prop) (S : World → Prop) : List Bool → List Oper → Act → World → Prop
  | false :: cs, o :: l, a, w => ∃ v, YieldsIf P ops S o v a ∧ HL P ops Q S cs l (a.put o.dst v) w
  | true :: cs, o :: l, a, w => Region.wanted o (yielded ops a.tmps) = true ∧ ∀ K : Act → World → Prop, Hid (∀ a' w', S w' → HL P ops Q S cs l a' w' → K a' w') → o.wp P a w K Q
  | _, _, a, w => Q .normal a w
/-- What is asked of the region's edges alone. -/
def lexB (md : Region.Mode) (ops : Array Oper) : List Bool → Nat → Array Bool → Bool
  | [], _, listed => Region.ready md ops listed == []
  | false :: cs, k, listed => (Region.ready md ops listed).contains k && Region.free md ops listed k && lexB md ops cs (k + 1) (listed.setIfInBounds k true)
  | true :: cs, k, listed => (Region.ready md ops listed == [k]) && lexB md ops cs (k + 1) (listed.setIfInBounds k true)
theorem HL.take {cs : List Bool} {o : Oper} {l : List Oper} {a : Act} {w : World} {v : Value} (hw : Region.wanted o (yielded ops a.tmps) = true) (h : ∀ w, S w → (execOp a.eval o).run P w = .ok (.value v) w)
    (hr : HL P ops Q S cs l (a.put o.dst v) w) : HL P ops Q S (false :: cs) (o :: l) a w := ⟨v, .inl ⟨hw, h⟩, hr⟩
theorem HL.skip {cs : List Bool} {o : Oper} {l : List Oper} {a : Act} {w : World} (hw : Region.wanted o (yielded ops a.tmps) = false) (hr : HL P ops Q S cs l (a.put o.dst undef) w) : HL P ops Q S (false :: cs) (o :: l) a w :=
  ⟨undef, .inr ⟨hw, rfl⟩, hr⟩
theorem HL.call {cs : List Bool} {o : Oper} {l : List Oper} {a : Act} {w : World} (hw : Region.wanted o (yielded ops a.tmps) = true)
    (h : ∀ K : Act → World → Prop, Hid (∀ a' w', S w' → HL P ops Q S cs l a' w' → K a' w') → o.wp P a w K Q) : HL P ops Q S (true :: cs) (o :: l) a w := ⟨hw, h⟩
theorem HL.done {a : Act} {w : World} (h : Q .normal a w) : HL P ops Q S [] [] a w := h
theorem HL.any {md : Region.Mode} (hs : Region.noSelect ops = true) (hQ : ∀ c a d v w, Q (.panic c) (Act.put a d v) w → Q (.panic c) a w) :
    ∀ (cs : List Bool) (l : List Oper) (k : Nat) (listed : Array Bool) (a : Act) (w : World), (∀ j, j < l.length → ops[k + j]? = l[j]?) → l.length = cs.length → lexB md ops cs k listed = true → S w →
      HL P ops Q S cs l a w → wpAnyH P md ops Q S cs.length listed a w
  | [], [], k, listed, a, w, _, _, hB, _, h => by
    refine wpAnyH_done ?_ h _
    simpa [lexB] using hB
  | [], _ :: _, _, _, _, _, _, hl, _, _, _ => by simp at hl
  | _ :: _, [], _, _, _, _, _, hl, _, _, _ => by simp at hl
  | c :: cs, o :: l, k, listed, a, w, ho, hl, hB, hS, h => by
    have h0 : ops[k]? = some o := by simpa using ho 0 (by simp)
    have ho' : ∀ j, j < l.length → ops[k + 1 + j]? = l[j]? := fun j hj => by
      have := ho (j + 1) (by simp; omega)
      rw [show k + 1 + j = k + (j + 1) by omega, this]; simp
    have hl' : l.length = cs.length := by simpa using hl
    cases c with
    | false =>
      simp only [lexB, Bool.and_eq_true] at hB
      obtain ⟨⟨hr, hf⟩, hB'⟩ := hB
      obtain ⟨v, hy, hK⟩ := h
      exact wpAnyH_take h0 hs hf hr (fun c a w => hQ c a _ _ w) hy hS (HL.any hs hQ cs l (k + 1) _ _ w ho' hl' hB' hS hK)
    | true =>
      simp only [lexB, Bool.and_eq_true, beq_iff_eq] at hB
      obtain ⟨hr, hB'⟩ := hB
      obtain ⟨hw, hK⟩ := h
      refine wpAnyH_all hr (by simp) fun i hi => ?_
      obtain rfl : i = k := by simpa using hi
      unfold wpOp
      simp only [h0, hw, if_true]
      exact .inl (hK _ (Lib.hid fun a' w' hS' h' => ⟨hS', HL.any hs hQ cs l (i + 1) _ a' w' ho' hl' hB' hS' h'⟩))
/-- The region. -/
theorem wp_region_lex {id : Nat} {a : Act} {w : World} {l : List Oper} (cs : List Bool) (S : World → Prop) (hm : P.follows .mixedOrders = true) (hs : Region.noSelect l.toArray = true) (hl : l.length = cs.length)
    (hB : lexB .any l.toArray cs 0 (Array.replicate l.toArray.size false) = true) (hQ : ∀ c a d v w, Q (.panic c) (Act.put a d v) w → Q (.panic c) a w) (hS : S w.drew)
    (h : HL P l.toArray Q S cs l a w.drew) : (Code.region id l.toArray true).wp P Q a w := by
  refine wp_region_held_drew (S := S) hm hS fun _ => ?_
  have := HL.any (md := .any) hs hQ cs l 0 (Array.replicate l.toArray.size false) a w.drew (fun j hj => by simp) hl hB hS h
  have e : l.toArray.size = cs.length := by simpa using hl
  rw [e]
  rw [e] at this
  exact this
end
end Go.Proofs.Ytjefjngheolmkaa
/- Contracts of Seg.isRight and SegOK, as the program has them. Conditions: the segment can be read, and has at most 1048576 changes. -/
namespace Go.Proofs.Ytjefjngheolmkaa
set_option linter.unusedVariables false
set_option maxRecDepth 100000
open Go.RowKit

set_option maxRecDepth 100000 in
set_option maxHeartbeats 4000000 in
theorem segRight_c (f t m : Int) (A : Option Addr) (c B : Nat) (cs : List Chg) (w : World) (h : Chs w B A cs) (hB : B ≤ w.heap.size) (hn : cs.length ≤ 1048576) :
    Calls Try.prog 51 #[.agg #[.int .i64 f, .int .i64 t, .int .i64 m, .slice A cs.length c]] w fun e w' => e = .returned (.bool (segB f t m cs)) ∧ Nx w w' := by
  cases x1 : inB 0 999999 f with
  | false =>
    have H1 := Lib.hid x1
    clear x1
    have HR := Lib.hid (segB_no (f := f) (t := t) (m := m) (cs := cs) (.inr (.inr (.inl H1.out)))).symm
    go_enter Try.func51, Try.ntmps51
    go_wp2_with (first
      | (go_at_call 83; refine (isPosition_c _ _).mono ?_; rintro e w' ⟨rfl, rfl⟩; first | rw [H1.out])
      | (go_at_call 94; refine (isTime_c _ _).mono ?_; rintro e w' ⟨rfl, rfl⟩; fail))
    go_ret
    exact ⟨ret_bool HR.out, (Nx.refl _).alloc _⟩
  | true =>
  have H1 := Lib.hid x1
  obtain ⟨hf0, hf1⟩ := inB_yes x1
  clear x1
  cases x2 : inB 0 999999 t with
  | false =>
    have H2 := Lib.hid x2
    clear x2
    have HR := Lib.hid (segB_no (f := f) (t := t) (m := m) (cs := cs) (.inr (.inr (.inr (.inl H2.out))))).symm
    go_enter Try.func51, Try.ntmps51
    go_wp2_with (first
      | (go_at_call 83; refine (isPosition_c _ _).mono ?_; rintro e w' ⟨rfl, rfl⟩; first | rw [H1.out] | rw [H2.out])
      | (go_at_call 94; refine (isTime_c _ _).mono ?_; rintro e w' ⟨rfl, rfl⟩; fail))
    go_ret
    exact ⟨ret_bool HR.out, (Nx.refl _).alloc _⟩
  | true =>
  have H2 := Lib.hid x2
  obtain ⟨ht0, ht1⟩ := inB_yes x2
  clear x2
  by_cases x3 : f < t
  case neg =>
    have h3 : decide (t ≤ f) = true := by simp; omega
    have HR := Lib.hid (segB_no (f := f) (t := t) (m := m) (cs := cs) (.inr (.inr (.inr (.inr (.inl (by simp; omega))))))).symm
    go_enter Try.func51, Try.ntmps51
    go_wp2_with (first
      | (go_at_call 83; refine (isPosition_c _ _).mono ?_; rintro e w' ⟨rfl, rfl⟩; first | rw [H1.out] | rw [H2.out])
      | (go_at_call 94; refine (isTime_c _ _).mono ?_; rintro e w' ⟨rfl, rfl⟩; fail))
    go_ret
    exact ⟨ret_bool HR.out, (Nx.refl _).alloc _⟩
  have h3 : decide (t ≤ f) = false := by simp; omega
  cases x4 : inB 0 999999 m with
  | false =>
    have H4 := Lib.hid x4
    clear x4
    have HR := Lib.hid (segB_no (f := f) (t := t) (m := m) (cs := cs) (.inr (.inr (.inr (.inr (.inr (.inl H4.out))))))).symm
    go_enter Try.func51, Try.ntmps51
    go_wp2_with (first
      | (go_at_call 83; refine (isPosition_c _ _).mono ?_; rintro e w' ⟨rfl, rfl⟩; first | rw [H1.out] | rw [H2.out])
      | (go_at_call 94; refine (isTime_c _ _).mono ?_; rintro e w' ⟨rfl, rfl⟩; rw [H4.out]))
    go_ret
    exact ⟨ret_bool HR.out, (Nx.refl _).alloc _⟩
  | true =>
  have H4 := Lib.hid x4
  clear x4
  go_enter Try.func51, Try.ntmps51
  go_wp2_with (first
      | (go_at_call 83; refine (isPosition_c _ _).mono ?_; rintro e w' ⟨rfl, rfl⟩; first | rw [H1.out] | rw [H2.out])
      | (go_at_call 94; refine (isTime_c _ _).mono ?_; rintro e w' ⟨rfl, rfl⟩; rw [H4.out]))
  have b0 := Box.new w 30 #[.int .i64 f, .int .i64 t, .int .i64 m, .slice A cs.length c]
  have hx0 := (Nx.refl w).alloc (.cells #[.int .i64 f, .int .i64 t, .int .i64 m, .slice A cs.length c] 30)
  generalize w.alloc (.cells #[.int .i64 f, .int .i64 t, .int .i64 m, .slice A cs.length c] 30) = W at *
  clear h3
  go_loopw [31] (fun i wr => ∃ k : Nat, k ≤ cs.length ∧ i = .int .i64 k ∧ OkTo cs k ∧ Nx W wr) (fun i _ => cs.length - (intOf i).toNat)
  case atStart => exact ⟨0, Nat.zero_le _, rfl, OkTo.zero _, Nx.refl _⟩
  case round =>
    obtain ⟨k, hk, rfl, hto, hnx⟩ := hrel
    obtain ⟨_, _, _, c3⟩ := (b0.nx hnx).d4
    by_cases hlt : k < cs.length
    · obtain ⟨b, off, rfl, hb, k0, k1, k2⟩ := (h.below (hx0.trans hnx) hB).at_ hlt
      obtain ⟨⟨q0, q1, q2⟩, Hq⟩ : ∃ q, Hid (cs.getD k chZ = q) := ⟨_, rfl⟩
      rw [Hq.out] at k0 k1 k2
      cases hch : chB (q0, q1, q2) with
      | false =>
        have HC := Lib.hid hch
        have HR := Lib.hid (segB_no (f := f) (t := t) (m := m) (cs := cs) (.inr (.inr (.inr (.inr (.inr (.inr (chsB_no hlt (by unfold okCh; rw [Hq.out, hch]; rfl))))))))).symm
        clear hch
        go_wp2_with fail
        have bq := Box.new wr 75 #[.int .i64 q0, .int .i64 q1, .int .i64 q2]
        have hnxq := hnx.alloc (.cells #[.int .i64 q0, .int .i64 q1, .int .i64 q2] 75)
        have b1 := (b0.nx hnx).alloc (.cells #[.int .i64 q0, .int .i64 q1, .int .i64 q2] 75)
        generalize wr.alloc (.cells #[.int .i64 q0, .int .i64 q1, .int .i64 q2] 75) = wq at *
        clear c3 k0 k1 k2
        obtain ⟨_, _, _, c3⟩ := b1.d4
        obtain ⟨k0, k1, k2⟩ := bq.d3
        have hbv : w.heap.size < wq.heap.size := b1.lt
        refine wp_region_lex [false, true, false, false, false, false, false, false, false, false, false, false, false, false, false, false, false, false, false] (fun w' => w'.cell? ⟨w.heap.size, 3, none⟩ = some (.slice (some ⟨b, off, none⟩) cs.length c) ∧ w'.cell? ⟨wr.heap.size, 0, none⟩ = some (.int .i64 q0) ∧ w'.cell? ⟨wr.heap.size, 1, none⟩ = some (.int .i64 q1) ∧ w'.cell? ⟨wr.heap.size, 2, none⟩ = some (.int .i64 q2)) (by kernel_rfl) (by kernel_rfl) rfl (by kernel_rfl) (fun _ _ d _ _ h => by cases d <;> exact h) (by exact ⟨c3, k0, k1, k2⟩) ?_
        repeat (first | (refine HL.take (v := ?_) (by rfl) ?_ ?_; rotate_left; (· (intro w hSw; (try dsimp only at hSw); go_simp; try with_reducible rfl)); (try simp only [Act.put, List.setIfInBounds_toArray, List.set_cons_zero, List.set_cons_succ])) | (refine HL.skip (by rfl) ?_; (try simp only [Act.put, List.setIfInBounds_toArray, List.set_cons_zero, List.set_cons_succ])))
        refine HL.call (by rfl) (fun K hK => ?_)
        go_simp
        refine (changeRight_c q0 q1 q2 _).mono ?_; rintro e w1 ⟨rfl, hnx1⟩; rw [HC.out]; have d3 := (hnx1.cell (p := ⟨w.heap.size, 3, none⟩) hbv).trans c3; have l0 := (hnx1.cell (p := ⟨wr.heap.size, 0, none⟩) bq.lt).trans k0; have l1 := (hnx1.cell (p := ⟨wr.heap.size, 1, none⟩) bq.lt).trans k1; have l2 := (hnx1.cell (p := ⟨wr.heap.size, 2, none⟩) bq.lt).trans k2
        go_wp2_with fail
        refine hK.out _ _ (by exact ⟨d3, l0, l1, l2⟩) ?_
        clear hK K
        try simp only [Act.put, List.setIfInBounds_toArray, List.set_cons_zero, List.set_cons_succ]
        repeat (first | (refine HL.take (v := ?_) (by rfl) ?_ ?_; rotate_left; (· (intro w hSw; (try dsimp only at hSw); go_simp; try with_reducible rfl)); (try simp only [Act.put, List.setIfInBounds_toArray, List.set_cons_zero, List.set_cons_succ])) | (refine HL.skip (by rfl) ?_; (try simp only [Act.put, List.setIfInBounds_toArray, List.set_cons_zero, List.set_cons_succ])))
        refine HL.done ?_
        go_wp2
        go_ret
        exact ⟨ret_bool HR.out, hx0.trans (hnxq.drew.trans hnx1)⟩
      | true =>
        have HC := Lib.hid hch
        clear hch
        by_cases hk0 : k = 0
        · have hd0 : decide (0 < (k : Int)) = false := by simp; omega
          have hd1 : decide (0 < k) = false := by simp; omega
          have HO := Lib.hid (show okCh cs k = true by unfold okCh; rw [Hq.out, HC.out, hk0]; rfl)
          clear hk0
          go_wp2_with fail
          have bq := Box.new wr 75 #[.int .i64 q0, .int .i64 q1, .int .i64 q2]
          have hnxq := hnx.alloc (.cells #[.int .i64 q0, .int .i64 q1, .int .i64 q2] 75)
          have b1 := (b0.nx hnx).alloc (.cells #[.int .i64 q0, .int .i64 q1, .int .i64 q2] 75)
          generalize wr.alloc (.cells #[.int .i64 q0, .int .i64 q1, .int .i64 q2] 75) = wq at *
          clear c3 k0 k1 k2
          obtain ⟨_, _, _, c3⟩ := b1.d4
          obtain ⟨k0, k1, k2⟩ := bq.d3
          have hbv : w.heap.size < wq.heap.size := b1.lt
          refine wp_region_lex [false, true, false, false, false, false, false, false, false, false, false, false, false, false, false, false, false, false, false] (fun w' => w'.cell? ⟨w.heap.size, 3, none⟩ = some (.slice (some ⟨b, off, none⟩) cs.length c) ∧ w'.cell? ⟨wr.heap.size, 0, none⟩ = some (.int .i64 q0) ∧ w'.cell? ⟨wr.heap.size, 1, none⟩ = some (.int .i64 q1) ∧ w'.cell? ⟨wr.heap.size, 2, none⟩ = some (.int .i64 q2)) (by kernel_rfl) (by kernel_rfl) rfl (by kernel_rfl) (fun _ _ d _ _ h => by cases d <;> exact h) (by exact ⟨c3, k0, k1, k2⟩) ?_
          repeat (first | (refine HL.take (v := ?_) (by rfl) ?_ ?_; rotate_left; (· (intro w hSw; (try dsimp only at hSw); go_simp; try with_reducible rfl)); (try simp only [Act.put, List.setIfInBounds_toArray, List.set_cons_zero, List.set_cons_succ])) | (refine HL.skip (by rfl) ?_; (try simp only [Act.put, List.setIfInBounds_toArray, List.set_cons_zero, List.set_cons_succ])))
          refine HL.call (by rfl) (fun K hK => ?_)
          go_simp
          refine (changeRight_c q0 q1 q2 _).mono ?_; rintro e w1 ⟨rfl, hnx1⟩; rw [HC.out]; have d3 := (hnx1.cell (p := ⟨w.heap.size, 3, none⟩) hbv).trans c3; have l0 := (hnx1.cell (p := ⟨wr.heap.size, 0, none⟩) bq.lt).trans k0; have l1 := (hnx1.cell (p := ⟨wr.heap.size, 1, none⟩) bq.lt).trans k1; have l2 := (hnx1.cell (p := ⟨wr.heap.size, 2, none⟩) bq.lt).trans k2
          go_wp2_with fail
          refine hK.out _ _ (by exact ⟨d3, l0, l1, l2⟩) ?_
          clear hK K
          try simp only [Act.put, List.setIfInBounds_toArray, List.set_cons_zero, List.set_cons_succ]
          repeat (first | (refine HL.take (v := ?_) (by rfl) ?_ ?_; rotate_left; (· (intro w hSw; (try dsimp only at hSw); go_simp; try with_reducible rfl)); (try simp only [Act.put, List.setIfInBounds_toArray, List.set_cons_zero, List.set_cons_succ])) | (refine HL.skip (by rfl) ?_; (try simp only [Act.put, List.setIfInBounds_toArray, List.set_cons_zero, List.set_cons_succ])))
          refine HL.done ?_
          go_wp2
          go_roundw
          case rel => exact ⟨k + 1, by omega, by go_num, hto.succ HO.out, hnxq.drew.trans hnx1⟩
          case measure => simp [intOf]; omega
        · obtain ⟨j, rfl⟩ : ∃ j, k = j + 1 := ⟨k - 1, by omega⟩
          obtain ⟨b', off', he, _, m0, _, _⟩ := (h.below (hx0.trans hnx) hB).at_ (k := j) (by omega)
          obtain ⟨rfl, rfl⟩ : b = b' ∧ off = off' := by simpa using he
          clear he
          obtain ⟨⟨r0, r1, r2⟩, Hr⟩ : ∃ q, Hid (cs.getD j chZ = q) := ⟨_, rfl⟩
          rw [Hr.out] at m0
          have hb2 : b < wr.heap.size := by have := hx0.size; have := hnx.size; omega
          have hd0 : decide (0 < ((j : Int) + 1)) = true := by simp
          have hd1 : decide (0 < j + 1) = true := by simp
          have hi1 : (0 : Int) ≤ (j : Int) + 1 := by omega
          have hi2 : (j : Int) + 1 < (cs.length : Int) := by omega
          have hi4 : (j : Int) < (cs.length : Int) := by omega
          have hi5 : j < cs.length := by omega
          have hi6 : (0 : Int) ≤ (j : Int) := by omega
          by_cases hlt2 : r0 < q0
          · have hd : decide (q0 ≤ r0) = false := by simp; omega
            have HO := Lib.hid (show okCh cs (j + 1) = true by unfold okCh; rw [Hq.out, HC.out, Nat.add_sub_cancel, Hr.out]; simp [hlt2])
            go_wp2_with fail
            have bq := Box.new wr 75 #[.int .i64 q0, .int .i64 q1, .int .i64 q2]
            have hnxq := hnx.alloc (.cells #[.int .i64 q0, .int .i64 q1, .int .i64 q2] 75)
            have b1 := (b0.nx hnx).alloc (.cells #[.int .i64 q0, .int .i64 q1, .int .i64 q2] 75)
            replace m0 := (((Nx.refl wr).alloc (.cells #[.int .i64 q0, .int .i64 q1, .int .i64 q2] 75)).cell (p := ⟨b, off + j * 3, none⟩) hb2).trans m0
            generalize wr.alloc (.cells #[.int .i64 q0, .int .i64 q1, .int .i64 q2] 75) = wq at *
            clear c3 k0 k1 k2
            obtain ⟨_, _, _, c3⟩ := b1.d4
            obtain ⟨k0, k1, k2⟩ := bq.d3
            have hbv : w.heap.size < wq.heap.size := b1.lt
            have hbw : b < wq.heap.size := by have := bq.lt; omega
            have hi3 : ((j : Int) + 1).toNat = j + 1 := by omega
            have hw1 : IntKind.i64.wrap ((j : Int) + 1 - 1) = (j : Int) := by rw [Int.add_sub_cancel]; exact IntWalk.i64_in _ (by omega)
            have hw2 : IntKind.i64.wrap (j : Int) = (j : Int) := IntWalk.i64_in _ (by omega)
            refine wp_region_lex [false, true, false, false, false, false, false, false, false, false, false, false, false, false, false, false, false, false, false] (fun w' => w'.cell? ⟨w.heap.size, 3, none⟩ = some (.slice (some ⟨b, off, none⟩) cs.length c) ∧ w'.cell? ⟨wr.heap.size, 0, none⟩ = some (.int .i64 q0) ∧ w'.cell? ⟨wr.heap.size, 1, none⟩ = some (.int .i64 q1) ∧ w'.cell? ⟨wr.heap.size, 2, none⟩ = some (.int .i64 q2) ∧ w'.cell? ⟨b, off + j * 3, none⟩ = some (.int .i64 r0)) (by kernel_rfl) (by kernel_rfl) rfl (by kernel_rfl) (fun _ _ d _ _ h => by cases d <;> exact h) (by exact ⟨c3, k0, k1, k2, m0⟩) ?_
            repeat (first | (refine HL.take (v := ?_) (by rfl) ?_ ?_; rotate_left; (· (intro w hSw; (try dsimp only at hSw); go_simp; try with_reducible rfl)); (try simp only [Act.put, List.setIfInBounds_toArray, List.set_cons_zero, List.set_cons_succ])) | (refine HL.skip (by rfl) ?_; (try simp only [Act.put, List.setIfInBounds_toArray, List.set_cons_zero, List.set_cons_succ])))
            refine HL.call (by rfl) (fun K hK => ?_)
            go_simp
            refine (changeRight_c q0 q1 q2 _).mono ?_; rintro e w1 ⟨rfl, hnx1⟩; rw [HC.out]; have d3 := (hnx1.cell (p := ⟨w.heap.size, 3, none⟩) hbv).trans c3; have l0 := (hnx1.cell (p := ⟨wr.heap.size, 0, none⟩) bq.lt).trans k0; have l1 := (hnx1.cell (p := ⟨wr.heap.size, 1, none⟩) bq.lt).trans k1; have l2 := (hnx1.cell (p := ⟨wr.heap.size, 2, none⟩) bq.lt).trans k2; have n0 := (hnx1.cell (p := ⟨b, off + j * 3, none⟩) hbw).trans m0
            go_wp2_with fail
            refine hK.out _ _ (by exact ⟨d3, l0, l1, l2, n0⟩) ?_
            clear hK K
            try simp only [Act.put, List.setIfInBounds_toArray, List.set_cons_zero, List.set_cons_succ]
            repeat (first | (refine HL.take (v := ?_) (by rfl) ?_ ?_; rotate_left; (· (intro w hSw; (try dsimp only at hSw); go_simp; try with_reducible rfl)); (try simp only [Act.put, List.setIfInBounds_toArray, List.set_cons_zero, List.set_cons_succ])) | (refine HL.skip (by rfl) ?_; (try simp only [Act.put, List.setIfInBounds_toArray, List.set_cons_zero, List.set_cons_succ])))
            refine HL.done ?_
            clear hw1 hw2 hi6 hi1 hi2 hi3 hi4 hi5
            go_wp2
            go_roundw
            case rel => exact ⟨j + 1 + 1, by omega, by go_num, hto.succ HO.out, hnxq.drew.trans hnx1⟩
            case measure => simp [intOf]; omega
          · have hd : decide (q0 ≤ r0) = true := by simp; omega
            have HR := Lib.hid (segB_no (f := f) (t := t) (m := m) (cs := cs) (.inr (.inr (.inr (.inr (.inr (.inr (chsB_no hlt (by unfold okCh; rw [Hq.out, Nat.add_sub_cancel, Hr.out]; simp [hlt2]))))))))).symm
            go_wp2_with fail
            have bq := Box.new wr 75 #[.int .i64 q0, .int .i64 q1, .int .i64 q2]
            have hnxq := hnx.alloc (.cells #[.int .i64 q0, .int .i64 q1, .int .i64 q2] 75)
            have b1 := (b0.nx hnx).alloc (.cells #[.int .i64 q0, .int .i64 q1, .int .i64 q2] 75)
            replace m0 := (((Nx.refl wr).alloc (.cells #[.int .i64 q0, .int .i64 q1, .int .i64 q2] 75)).cell (p := ⟨b, off + j * 3, none⟩) hb2).trans m0
            generalize wr.alloc (.cells #[.int .i64 q0, .int .i64 q1, .int .i64 q2] 75) = wq at *
            clear c3 k0 k1 k2
            obtain ⟨_, _, _, c3⟩ := b1.d4
            obtain ⟨k0, k1, k2⟩ := bq.d3
            have hbv : w.heap.size < wq.heap.size := b1.lt
            have hbw : b < wq.heap.size := by have := bq.lt; omega
            have hi3 : ((j : Int) + 1).toNat = j + 1 := by omega
            have hw1 : IntKind.i64.wrap ((j : Int) + 1 - 1) = (j : Int) := by rw [Int.add_sub_cancel]; exact IntWalk.i64_in _ (by omega)
            have hw2 : IntKind.i64.wrap (j : Int) = (j : Int) := IntWalk.i64_in _ (by omega)
            refine wp_region_lex [false, true, false, false, false, false, false, false, false, false, false, false, false, false, false, false, false, false, false] (fun w' => w'.cell? ⟨w.heap.size, 3, none⟩ = some (.slice (some ⟨b, off, none⟩) cs.length c) ∧ w'.cell? ⟨wr.heap.size, 0, none⟩ = some (.int .i64 q0) ∧ w'.cell? ⟨wr.heap.size, 1, none⟩ = some (.int .i64 q1) ∧ w'.cell? ⟨wr.heap.size, 2, none⟩ = some (.int .i64 q2) ∧ w'.cell? ⟨b, off + j * 3, none⟩ = some (.int .i64 r0)) (by kernel_rfl) (by kernel_rfl) rfl (by kernel_rfl) (fun _ _ d _ _ h => by cases d <;> exact h) (by exact ⟨c3, k0, k1, k2, m0⟩) ?_
            repeat (first | (refine HL.take (v := ?_) (by rfl) ?_ ?_; rotate_left; (· (intro w hSw; (try dsimp only at hSw); go_simp; try with_reducible rfl)); (try simp only [Act.put, List.setIfInBounds_toArray, List.set_cons_zero, List.set_cons_succ])) | (refine HL.skip (by rfl) ?_; (try simp only [Act.put, List.setIfInBounds_toArray, List.set_cons_zero, List.set_cons_succ])))
            refine HL.call (by rfl) (fun K hK => ?_)
            go_simp
            refine (changeRight_c q0 q1 q2 _).mono ?_; rintro e w1 ⟨rfl, hnx1⟩; rw [HC.out]; have d3 := (hnx1.cell (p := ⟨w.heap.size, 3, none⟩) hbv).trans c3; have l0 := (hnx1.cell (p := ⟨wr.heap.size, 0, none⟩) bq.lt).trans k0; have l1 := (hnx1.cell (p := ⟨wr.heap.size, 1, none⟩) bq.lt).trans k1; have l2 := (hnx1.cell (p := ⟨wr.heap.size, 2, none⟩) bq.lt).trans k2; have n0 := (hnx1.cell (p := ⟨b, off + j * 3, none⟩) hbw).trans m0
            go_wp2_with fail
            refine hK.out _ _ (by exact ⟨d3, l0, l1, l2, n0⟩) ?_
            clear hK K
            try simp only [Act.put, List.setIfInBounds_toArray, List.set_cons_zero, List.set_cons_succ]
            repeat (first | (refine HL.take (v := ?_) (by rfl) ?_ ?_; rotate_left; (· (intro w hSw; (try dsimp only at hSw); go_simp; try with_reducible rfl)); (try simp only [Act.put, List.setIfInBounds_toArray, List.set_cons_zero, List.set_cons_succ])) | (refine HL.skip (by rfl) ?_; (try simp only [Act.put, List.setIfInBounds_toArray, List.set_cons_zero, List.set_cons_succ])))
            refine HL.done ?_
            clear hw1 hw2 hi6 hi1 hi2 hi3 hi4 hi5
            go_wp2
            go_ret
            exact ⟨ret_bool HR.out, hx0.trans (hnxq.drew.trans hnx1)⟩
    · obtain rfl : k = cs.length := by omega
      have HR := Lib.hid (segB_mk hf0 x3 ht1 H4.out hto.all).symm
      go_wp2
      go_ret
      exact ⟨ret_bool HR.out, hx0.trans hnx⟩
end Go.Proofs.Ytjefjngheolmkaa
