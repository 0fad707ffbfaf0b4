/-
  Texts of the proof, put together in their order: Core, Ers, Dig, Sum, Six.
  Conditions: those of each.
-/
import Derived.Test.YteckhdkghfidiaaGreatDoorRows
import Derived.WalkKit
import Derived.ProofKit
import Derived.OpenShut
import Derived.ShutString
import Derived.WalkSpells
import Derived.Lib.Hide
import Derived.Below
import Derived.Laws.OwnMore
import Derived.Deep.Draws
import Derived.Laws.Rows
import Derived.Laws.MakeOwn
import Derived.Laws.Entries
import Derived.OwnWalk
import Derived.LaidEql
import Derived.Stop.Asserts
import Derived.RowKitTokens
import Derived.Deep.RegionWith
import Derived.Laws.IdiomStrings
import Derived.Laws.Concat
import Derived.IntWalk
import Derived.Lib.Strings
/- Words on memory for the texts of this seat: blocks of the call's own, blocks that are known whole, what a size is, and how these facts go on from world to world. Conditions: none. -/
namespace Go.Proofs.YteckhdkghfidiaaGreatDoor
set_option linter.unusedVariables false
open Go.RowKit

theorem ret_bool {a b : Bool} (h : a = b) : Ending.returned (.bool a) = .returned (.bool b) := by rw [h]
theorem ret_int {a b : Int} (h : a = b) : Ending.returned (.int .i64 a) = .returned (.int .i64 b) := by rw [h]

/-- Nothing that was there has turned. -/
abbrev Nx (w w' : World) : Prop := Below w.heap.size w w'
theorem Nx.refl (w : World) : Nx w w := Below.refl _ _
theorem Nx.trans {a b c : World} (h : Nx a b) (k : Nx b c) : Nx a c := Below.trans h (Below.mono k h.size)
theorem Nx.alloc {a w : World} (h : Nx a w) (o : Obj) : Nx a (w.alloc o) := Below.alloc h h.size o
theorem Nx.drew {a w : World} (h : Nx a w) : Nx a w.drew := ⟨h.os, h.tape, h.output, h.size, h.block⟩
theorem Nx.drewN {a w : World} (h : Nx a w) (n : Nat) : Nx a (w.drewN n) := ⟨h.os, h.tape, h.output, h.size, h.block⟩
theorem Nx.drew_r {a w : World} (h : Nx a.drew w) : Nx a w := ⟨h.os, h.tape, h.output, h.size, h.block⟩

/-- The cells from an address on, in a block below B. -/
def Row (w : World) (B : Nat) (A : Option Addr) (m : Nat) (f : Nat → Value) : Prop :=
  0 < m → ∃ b off, A = some ⟨b, off, none⟩ ∧ b < B ∧ ∀ i, i < m → w.cell? ⟨b, off + i, none⟩ = some (f i)
theorem Row.keep {w w' : World} {B m : Nat} {A : Option Addr} {f : Nat → Value} (h : Row w B A m f) (hk : ∀ p : Addr, p.block < B → w'.cell? p = w.cell? p) : Row w' B A m f := fun hm => by
  obtain ⟨b, off, e, hb, hc⟩ := h hm
  exact ⟨b, off, e, hb, fun i hi => (hk _ hb).trans (hc i hi)⟩
theorem Row.more {w : World} {B B' m : Nat} {A : Option Addr} {f : Nat → Value} (h : Row w B A m f) (hB : B ≤ B') : Row w B' A m f := fun hm => by
  obtain ⟨b, off, e, hb, hc⟩ := h hm
  exact ⟨b, off, e, by omega, hc⟩
theorem Row.below {w w' : World} {B B' m : Nat} {A : Option Addr} {f : Nat → Value} (h : Row w B A m f) (hb : Below B' w w') (hB : B ≤ B') : Row w' B A m f := h.keep fun _ hp => hb.cell (by omega)

/-- A slice of bools that is read. -/
def blAt (bs : List Bool) (i : Nat) : Value := .bool (bs.getD i false)
def Bls (w : World) (B : Nat) (A : Option Addr) (n : Nat) (bs : List Bool) : Prop := bs.length = n ∧ Row w B A n (blAt bs)
theorem Bls.below {w w' : World} {B B' n : Nat} {A : Option Addr} {bs : List Bool} (h : Bls w B A n bs) (hb : Below B' w w') (hB : B ≤ B') : Bls w' B A n bs := ⟨h.1, h.2.below hb hB⟩
theorem Bls.more {w : World} {B B' n : Nat} {A : Option Addr} {bs : List Bool} (h : Bls w B A n bs) (hB : B ≤ B') : Bls w B' A n bs := ⟨h.1, h.2.more hB⟩
theorem Bls.at_ {w : World} {B n k : Nat} {A : Option Addr} {bs : List Bool} (h : Bls w B A n bs) (hk : k < n) :
    ∃ b off, A = some ⟨b, off, none⟩ ∧ b < B ∧ w.cell? ⟨b, off + k, none⟩ = some (.bool (bs.getD k false)) := by
  obtain ⟨b, off, e, hb, hc⟩ := h.2 (by omega)
  exact ⟨b, off, e, hb, hc k hk⟩
/-- What is left of a size behind a cost: -1 if it is not enough. -/
def szR (left cost : Int) : Int := if cost ≤ left then left - cost else -1
theorem sum_take_succ (l : List Nat) (k : Nat) (h : k < l.length) : (l.take (k + 1)).sum = (l.take k).sum + l[k] := by
  rw [List.take_succ_eq_append_getElem h, List.sum_append]; simp
theorem sum_take_le (l : List Nat) (k : Nat) : (l.take k).sum ≤ l.sum := by
  have : l.sum = (l.take k).sum + (l.drop k).sum := by rw [← List.sum_append, List.take_append_drop]
  omega
theorem szR_no {left cost : Int} (h : left < cost) : -1 = szR left cost := by unfold szR; rw [if_neg (by omega)]
theorem szR_yes {left cost : Int} (h : cost ≤ left) : left - cost = szR left cost := by unfold szR; rw [if_pos h]
theorem szR_szR {left a b : Int} (h : a ≤ left) : szR (szR left a) b = szR left (a + b) := by
  unfold szR
  rw [if_pos h]
  by_cases hc : a + b ≤ left
  · rw [if_pos (by omega), if_pos hc]; omega
  · rw [if_neg (by omega), if_neg hc]

/-- A block of the call's own, known whole, none of it frozen: its first m cells are f. -/
def Own (w : World) (g : Nat) (t : TypeId) (m : Nat) (f : Nat → Value) : Prop :=
  ∃ cs : Array Value, w.heap[g]? = some (.cells cs t (0, 0)) ∧ m ≤ cs.size ∧ ∀ i, i < m → cs[i]? = some (f i)
section
variable {w w' : World} {g : Nat} {t : TypeId} {m : Nat} {f : Nat → Value}
theorem Own.lt (h : Own w g t m f) : g < w.heap.size := by
  obtain ⟨cs, h, _⟩ := h
  rcases Nat.lt_or_ge g w.heap.size with hlt | hge
  · exact hlt
  · rw [Array.getElem?_eq_none hge] at h; cases h
theorem Own.cell (h : Own w g t m f) {i : Nat} (hi : i < m) : w.cell? ⟨g, i, none⟩ = some (f i) := by
  obtain ⟨cs, h, _, hc⟩ := h
  exact (cell_of_row w g i cs t (0, 0) h).trans (hc i hi)
theorem Own.frozen (h : Own w g t m f) (i : Nat) : w.frozen? ⟨g, i, none⟩ = false := by
  obtain ⟨cs, h, _⟩ := h
  simp [World.frozen?, h]
theorem Own.of_block (h : Own w g t m f) (hb : w'.heap[g]? = w.heap[g]?) : Own w' g t m f := by
  obtain ⟨cs, h, r⟩ := h
  exact ⟨cs, hb.trans h, r⟩
theorem Own.below {B : Nat} (h : Own w g t m f) (hb : Below B w w') (hg : g < B) : Own w' g t m f := h.of_block (hb.block g hg)
theorem Own.nx (h : Own w g t m f) (hb : Nx w w') : Own w' g t m f := h.of_block (hb.block g h.lt)
theorem Own.row (h : Own w g t m f) {B : Nat} (hB : g < B) : Row w B (some ⟨g, 0, none⟩) m f := fun _ =>
  ⟨g, 0, rfl, hB, fun i hi => by rw [Nat.zero_add]; exact h.cell hi⟩
theorem Own.set (h : Own w g t m f) {k : Nat} (hk : k < m) (v : Value) : Own (w.setCell ⟨g, k, none⟩ v) g t m (fun i => if i = k then v else f i) := by
  obtain ⟨cs, h, hm, hc⟩ := h
  refine ⟨cs.setIfInBounds k v, ?_, by simpa using hm, fun i hi => ?_⟩
  · simp [World.setCell, Array.getElem?_modify, h]
  · rw [Array.getElem?_setIfInBounds]
    by_cases e : k = i
    · subst e; rw [if_pos rfl, if_pos (by omega)]; simp
    · rw [if_neg e, hc i hi]; show some (f i) = some (if i = k then v else f i); rw [if_neg (fun h : i = k => e h.symm)]
theorem Own.far (h : Own w g t m f) {p : Addr} (hp : g ≠ p.block) (v : Value) : Own (w.setCell p v) g t m f := h.of_block (Below.heap_setCell w p v g hp)
theorem Own.alloc (h : Own w g t m f) (o : Obj) : Own (w.alloc o) g t m f := h.of_block (Below.heap_alloc w o g h.lt)
theorem Own.drewN (h : Own w g t m f) (n : Nat) : Own (w.drewN n) g t m f := h
theorem Own.congr {f' : Nat → Value} (h : Own w g t m f) (hf : ∀ i, i < m → f i = f' i) : Own w g t m f' := by
  obtain ⟨cs, h, hm, hc⟩ := h
  exact ⟨cs, h, hm, fun i hi => by rw [← hf i hi]; exact hc i hi⟩
theorem Own.less {m' : Nat} (h : Own w g t m f) (hm : m' ≤ m) : Own w g t m' f := by
  obtain ⟨cs, h, hm', hc⟩ := h
  exact ⟨cs, h, by omega, fun i hi => hc i (by omega)⟩
end
/-- A block of the call's own that is being filled: its first k cells are F already. -/
def Fill (w : World) (g : Nat) (t : TypeId) (m k : Nat) (F : Nat → Value) : Prop := ∃ f, Own w g t m f ∧ ∀ i, i < k → f i = F i
section
variable {w w' : World} {g : Nat} {t : TypeId} {m k : Nat} {f F : Nat → Value}
theorem Fill.start (h : Own w g t m f) : Fill w g t m 0 F := ⟨f, h, fun i hi => absurd hi (by omega)⟩
theorem Fill.lt (h : Fill w g t m k F) : g < w.heap.size := by
  obtain ⟨f, h, _⟩ := h; exact h.lt
theorem Fill.some_ (h : Fill w g t m k F) {i : Nat} (hi : i < m) : ∃ v, w.cell? ⟨g, i, none⟩ = some v := by
  obtain ⟨f, h, _⟩ := h; exact ⟨_, h.cell hi⟩
theorem Fill.frozen (h : Fill w g t m k F) (i : Nat) : w.frozen? ⟨g, i, none⟩ = false := by
  obtain ⟨f, h, _⟩ := h; exact h.frozen i
theorem Fill.step (h : Fill w g t m k F) (hk : k < m) {v : Value} (hv : v = F k) : Fill (w.setCell ⟨g, k, none⟩ v) g t m (k + 1) F := by
  obtain ⟨f, h, hf⟩ := h
  refine ⟨_, h.set hk v, fun i hi => ?_⟩
  by_cases e : i = k
  · subst e; simp [hv]
  · simp only [if_neg e]; exact hf i (by omega)
theorem Fill.done (h : Fill w g t m m F) : Own w g t m F := by
  obtain ⟨f, h, hf⟩ := h; exact h.congr hf
theorem Fill.nx (h : Fill w g t m k F) (hb : Nx w w') : Fill w' g t m k F := by
  obtain ⟨f, h, hf⟩ := h; exact ⟨f, h.nx hb, hf⟩
theorem Nx.setCell {a w : World} (h : Nx a w) {p : Addr} (hp : a.heap.size ≤ p.block) (v : Value) : Nx a (w.setCell p v) := Below.setCell h hp v
end
theorem Own.made (w : World) (z : Array Value) (n : Nat) (t : TypeId) : Own (w.alloc (.cells (madeCells z n) t)) w.heap.size t n (fun i => z[i % z.size]!) :=
  ⟨_, heap_alloc_new w _, by rw [size_madeCells]; exact Nat.le_refl _, fun i hi => by simp [madeCells, hi]⟩
theorem run_make_rowN {P : Program} (t e : TypeId) (i : TypeInfo) (z : Value) (ht : P.underlying t = some (.slice e)) (hi : P.info? e = some i) (hz : i.zero = some z)
    (kl kc : IntKind) (n c : Nat) (hnc : n ≤ c) (hbytes : i.bytes * c ≤ 281474976710656) (h63 : c ≤ 9223372036854775807) (w : World) :
    (Instr.makeSlice t (.int kl (n : Int)) (.int kc (c : Int))).run P w = .ok (.slice (some ⟨w.heap.size, 0, none⟩) n c) (w.alloc (.cells (madeCells z.cells (c * i.size)) e)) := by
  have hb : (i.bytes : Int) * (c : Int) ≤ 281474976710656 := by
    have h : ((i.bytes * c : Nat) : Int) ≤ 281474976710656 := by omega
    rwa [Int.natCast_mul] at h
  have hr := run_make (P := P) w t e i z ht hi hz kl kc n c (by omega) (by omega) hb (by omega)
  simp only [Int.toNat_natCast] at hr
  exact hr
/-- Of what was there nothing has turned but, perhaps, the blocks from lo to below hi. -/
structure Rg (lo hi : Nat) (w w' : World) : Prop where
  os : w'.os = w.os
  tape : w'.tape = w.tape
  output : w'.output = w.output
  size : w.heap.size ≤ w'.heap.size
  block : ∀ k, k < w.heap.size → (k < lo ∨ hi ≤ k) → w'.heap[k]? = w.heap[k]?
theorem Rg.of_nx {lo hi : Nat} {w w' : World} (h : Nx w w') : Rg lo hi w w' := ⟨h.os, h.tape, h.output, h.size, fun k hk _ => h.block k hk⟩
theorem Rg.trans {lo hi : Nat} {a b c : World} (h : Rg lo hi a b) (k : Rg lo hi b c) : Rg lo hi a c :=
  ⟨k.os.trans h.os, k.tape.trans h.tape, k.output.trans h.output, Nat.le_trans h.size k.size, fun i hi' hr => (k.block i (Nat.lt_of_lt_of_le hi' h.size) hr).trans (h.block i hi' hr)⟩
theorem Rg.setCell {lo hi : Nat} {a w : World} (h : Rg lo hi a w) {p : Addr} (h1 : lo ≤ p.block) (h2 : p.block < hi) (v : Value) : Rg lo hi a (w.setCell p v) :=
  h.trans ⟨rfl, rfl, rfl, by simp [World.setCell], fun k _ hr => Below.heap_setCell _ _ _ _ (by omega)⟩
theorem Rg.below {lo hi : Nat} {w w' : World} (h : Rg lo hi w w') (hB : lo ≤ w.heap.size) : Below lo w w' := ⟨h.os, h.tape, h.output, h.size, fun k hk => h.block k (by omega) (.inl hk)⟩
theorem Rg.nx_of {lo hi : Nat} {a w w' : World} (h : Nx a w) (k : Rg lo hi w w') (hl : a.heap.size ≤ lo) : Nx a w' :=
  ⟨k.os.trans h.os, k.tape.trans h.tape, k.output.trans h.output, Nat.le_trans h.size k.size, fun i hi' => (k.block i (Nat.lt_of_lt_of_le hi' h.size) (.inl (by omega))).trans (h.block i hi')⟩
theorem Own.rg {lo hi : Nat} {w w' : World} {g : Nat} {t : TypeId} {m : Nat} {f : Nat → Value} (h : Own w g t m f) (hb : Rg lo hi w w') (hg : g < lo ∨ hi ≤ g) : Own w' g t m f := h.of_block (hb.block g h.lt hg)
/-- Blocks of the call's own that hold another type than t have not turned. -/
def TyK (t : TypeId) (w w' : World) : Prop := ∀ g t' m f, t' ≠ t → Own w g t' m f → Own w' g t' m f
theorem TyK.refl (t : TypeId) (w : World) : TyK t w w := fun _ _ _ _ _ h => h
theorem TyK.nx {t : TypeId} {a w w' : World} (h : TyK t a w) (hb : Nx w w') : TyK t a w' := fun g t' m f hne ho => (h g t' m f hne ho).nx hb
theorem Own.ne_type {w : World} {g g' : Nat} {t t' : TypeId} {m m' : Nat} {f f' : Nat → Value} (h : Own w g t m f) (h' : Own w g' t' m' f') (hne : t' ≠ t) : g' ≠ g := by
  rintro rfl
  obtain ⟨cs, h, _⟩ := h
  obtain ⟨cs', h', _⟩ := h'
  rw [h] at h'
  injection h' with h'
  injection h' with _ ht
  exact hne ht.symm
theorem TyK.set {t : TypeId} {a w : World} (h : TyK t a w) {g i m : Nat} {f : Nat → Value} (ho : Own w g t m f) (v : Value) : TyK t a (w.setCell ⟨g, i, none⟩ v) := fun g' t' m' f' hne h' =>
  (h g' t' m' f' hne h').far (Own.ne_type ho (h g' t' m' f' hne h') hne) v
theorem TyK.set_fill {t : TypeId} {a w : World} (h : TyK t a w) {g i m k : Nat} {F : Nat → Value} (ho : Fill w g t m k F) (v : Value) : TyK t a (w.setCell ⟨g, i, none⟩ v) := by
  obtain ⟨f, ho, _⟩ := ho; exact h.set ho v
/-- A block that is known whole. -/
def Box (w : World) (g : Nat) (t : TypeId) (cs : Array Value) : Prop := w.heap[g]? = some (.cells cs t (0, 0))
section
variable {w w' : World} {g : Nat} {t : TypeId} {cs : Array Value} {v0 v1 : Value}
theorem Box.lt (h : Box w g t cs) : g < w.heap.size := by
  rcases Nat.lt_or_ge g w.heap.size with hlt | hge
  · exact hlt
  · unfold Box at h; rw [Array.getElem?_eq_none hge] at h; cases h
theorem Box.new (w : World) (t : TypeId) (cs : Array Value) : Box (w.alloc (.cells cs t)) w.heap.size t cs := heap_alloc_new w _
theorem Box.alloc (h : Box w g t cs) (o : Obj) : Box (w.alloc o) g t cs := (Below.heap_alloc w o g h.lt).trans h
theorem Box.nx (h : Box w g t cs) (hb : Nx w w') : Box w' g t cs := (hb.block g h.lt).trans h
theorem Box.rg {lo hi : Nat} (h : Box w g t cs) (hb : Rg lo hi w w') (hg : g < lo ∨ hi ≤ g) : Box w' g t cs := (hb.block g h.lt hg).trans h
theorem Box.grown {row : Option Nat} (h : Box w g t cs) (hb : w.grownBy w' row) (hg : some g ≠ row) : Box w' g t cs := (hb.block g h.lt hg).trans h
theorem Box.far (h : Box w g t cs) {p : Addr} (hp : g ≠ p.block) (u : Value) : Box (w.setCell p u) g t cs := (Below.heap_setCell w p u g hp).trans h
theorem Box.cell (h : Box w g t cs) (i : Nat) : w.cell? ⟨g, i, none⟩ = cs[i]? := cell_of_row w g i cs t (0, 0) h
theorem Box.frozen (h : Box w g t cs) (i : Nat) : w.frozen? ⟨g, i, none⟩ = false := by
  unfold Box at h
  simp [World.frozen?, h]
theorem Box.c0 (h : Box w g t #[v0, v1]) : w.cell? ⟨g, 0, none⟩ = some v0 := h.cell 0
theorem Box.c1 (h : Box w g t #[v0, v1]) : w.cell? ⟨g, 1, none⟩ = some v1 := h.cell 1
theorem Box.set0 (h : Box w g t #[v0, v1]) (u : Value) : Box (w.setCell ⟨g, 0, none⟩ u) g t #[u, v1] := by
  unfold Box at h ⊢
  simp [World.setCell, Array.getElem?_modify, h]
theorem Box.set1 (h : Box w g t #[v0, v1]) (u : Value) : Box (w.setCell ⟨g, 1, none⟩ u) g t #[v0, u] := by
  unfold Box at h ⊢
  simp [World.setCell, Array.getElem?_modify, h]
end
/-- A slice's m cells lie in a block of the call's own, from block number lo on. -/
def Sl (w : World) (lo : Nat) (A : Option Addr) (t : TypeId) (m : Nat) (f : Nat → Value) : Prop := 0 < m → ∃ g, A = some ⟨g, 0, none⟩ ∧ lo ≤ g ∧ Own w g t m f
/-- .. its number from lo to below hi. -/
def Sr (w : World) (lo hi : Nat) (A : Option Addr) (t : TypeId) (m : Nat) (f : Nat → Value) : Prop := 0 < m → ∃ g, A = some ⟨g, 0, none⟩ ∧ lo ≤ g ∧ g < hi ∧ Own w g t m f
section
variable {w w' : World} {lo lo' hi : Nat} {A : Option Addr} {t : TypeId} {m : Nat} {f : Nat → Value}
theorem Sl.none_ (w : World) (lo : Nat) (A : Option Addr) (t : TypeId) (f : Nat → Value) : Sl w lo A t 0 f := fun h => absurd h (by omega)
theorem Sl.nx (h : Sl w lo A t m f) (hb : Nx w w') : Sl w' lo A t m f := fun hm => by
  obtain ⟨g, e, hl, ho⟩ := h hm; exact ⟨g, e, hl, ho.nx hb⟩
theorem Sl.low (h : Sl w lo A t m f) (hl : lo' ≤ lo) : Sl w lo' A t m f := fun hm => by
  obtain ⟨g, e, hl2, ho⟩ := h hm; exact ⟨g, e, Nat.le_trans hl hl2, ho⟩
theorem Sl.row (h : Sl w lo A t m f) : Row w w.heap.size A m f := fun hm => by
  obtain ⟨g, e, hl, ho⟩ := h hm; subst e; exact ho.row ho.lt hm
theorem Sl.sr (h : Sl w lo A t m f) : Sr w lo w.heap.size A t m f := fun hm => by
  obtain ⟨g, e, hl, ho⟩ := h hm; exact ⟨g, e, hl, ho.lt, ho⟩
theorem Sl.own {g : Nat} (h : Own w g t m f) (hg : lo ≤ g) : Sl w lo (some ⟨g, 0, none⟩) t m f := fun _ => ⟨g, rfl, hg, h⟩
theorem Sl.far (h : Sl w lo A t m f) {p : Addr} (hp : p.block < lo) (v : Value) : Sl (w.setCell p v) lo A t m f := fun hm => by
  obtain ⟨g, e, hl, ho⟩ := h hm; exact ⟨g, e, hl, ho.far (by omega) v⟩
theorem Sl.far_ty (h : Sl w lo A t m f) {p : Addr} {t' : TypeId} {cs : Array Value} (hp : Box w p.block t' cs) (ht : t' ≠ t) (v : Value) : Sl (w.setCell p v) lo A t m f := fun hm => by
  obtain ⟨g, e, hl, ho⟩ := h hm
  refine ⟨g, e, hl, ho.far (fun he => ?_) v⟩
  obtain ⟨cs', hc, _⟩ := ho
  unfold Box at hp
  rw [← he, hc] at hp
  injection hp with hp
  injection hp with _ hp
  exact ht hp.symm
theorem Sr.sl (h : Sr w lo hi A t m f) : Sl w lo A t m f := fun hm => by
  obtain ⟨g, e, hl, _, ho⟩ := h hm; exact ⟨g, e, hl, ho⟩
theorem Sr.nx (h : Sr w lo hi A t m f) (hb : Nx w w') : Sr w' lo hi A t m f := fun hm => by
  obtain ⟨g, e, hl, hh, ho⟩ := h hm; exact ⟨g, e, hl, hh, ho.nx hb⟩
theorem Sr.rg {a b : Nat} (h : Sr w lo hi A t m f) (hb : Rg a b w w') (hd : hi ≤ a ∨ b ≤ lo) : Sr w' lo hi A t m f := fun hm => by
  obtain ⟨g, e, hl, hh, ho⟩ := h hm; exact ⟨g, e, hl, hh, ho.rg hb (by omega)⟩
theorem Sr.ty {t' : TypeId} (h : Sr w lo hi A t m f) (hb : TyK t' w w') (hne : t ≠ t') : Sr w' lo hi A t m f := fun hm => by
  obtain ⟨g, e, hl, hh, ho⟩ := h hm; exact ⟨g, e, hl, hh, hb _ _ _ _ hne ho⟩
end
theorem Box.set {w : World} {g : Nat} {t : TypeId} {cs : Array Value} (h : Box w g t cs) (i : Nat) (u : Value) : Box (w.setCell ⟨g, i, none⟩ u) g t (cs.setIfInBounds i u) := by
  unfold Box at h ⊢
  simp [World.setCell, Array.getElem?_modify, h]
/-- A result's box of four cells, filled at the end. -/
def put4 (u : World) (g : Nat) (v0 v1 v2 v3 : Value) : World := (((u.setCell ⟨g, 0, none⟩ v0).setCell ⟨g, 1, none⟩ v1).setCell ⟨g, 2, none⟩ v2).setCell ⟨g, 3, none⟩ v3
theorem put4_box {u : World} {g : Nat} {t : TypeId} {a b c d : Value} (hb : Box u g t #[a, b, c, d]) (v0 v1 v2 v3 : Value) : Box (put4 u g v0 v1 v2 v3) g t #[v0, v1, v2, v3] :=
  (((hb.set 0 v0).set 1 v1).set 2 v2).set 3 v3
theorem put4_nx {w u : World} {g : Nat} (hx : Nx w u) (hg : w.heap.size ≤ g) (v0 v1 v2 v3 : Value) : Nx w (put4 u g v0 v1 v2 v3) :=
  (((hx.setCell (p := ⟨g, 0, none⟩) hg v0).setCell (p := ⟨g, 1, none⟩) hg v1).setCell (p := ⟨g, 2, none⟩) hg v2).setCell (p := ⟨g, 3, none⟩) hg v3
theorem Box.d3 {w : World} {g : Nat} {t : TypeId} {v0 v1 v2 : Value} (h : Box w g t #[v0, v1, v2]) : w.cell? ⟨g, 0, none⟩ = some v0 ∧ w.cell? ⟨g, 1, none⟩ = some v1 ∧ w.cell? ⟨g, 2, none⟩ = some v2 :=
  ⟨h.cell 0, h.cell 1, h.cell 2⟩
theorem Box.d4 {w : World} {g : Nat} {t : TypeId} {v0 v1 v2 v3 : Value} (h : Box w g t #[v0, v1, v2, v3]) : w.cell? ⟨g, 0, none⟩ = some v0 ∧ w.cell? ⟨g, 1, none⟩ = some v1 ∧ w.cell? ⟨g, 2, none⟩ = some v2 ∧ w.cell? ⟨g, 3, none⟩ = some v3 :=
  ⟨h.cell 0, h.cell 1, h.cell 2, h.cell 3⟩
end Go.Proofs.YteckhdkghfidiaaGreatDoor
/- Contracts of errors.Is where both are errors of errors.New's make. Conditions: the errors' blocks are known. -/
namespace Go.Proofs.YteckhdkghfidiaaGreatDoor
set_option linter.unusedVariables false
open Go.RowKit Go.Extern.Stop Go.Stop Go.Extern

theorem erTypeOf (v : Value) (w : World) : (Extern.ReflectliteType.typeOf #[.iface 225 v]).run Tryz.prog w = .ok (.iface 182 (.agg #[.pointer (some ⟨9, 225, none⟩)])) w := by kernel_rfl
def cmpE : Array Value → Sem Value := Extern.ReflectliteType.method fun t => do Extern.Rtype.noPackHeld "Comparable" t; pure (.bool (← typeInfo t).comparable)
theorem erComparable (w : World) : (cmpE #[.agg #[.pointer (some ⟨9, 225, none⟩)]]).run Tryz.prog w = .ok (.bool true) w := by kernel_rfl
theorem erMethod (v : Value) (w : World) : (Go.method 355 182 v "Comparable").run Tryz.prog w = .ok (203, v) w := by kernel_rfl
theorem erComp : (Tryz.prog.info? 225).map (·.comparable) = some true := by kernel_rfl
theorem erSize : (Tryz.prog.info? 243).map (·.size) = some 1 := by kernel_rfl
theorem erNoIs (v : Value) (xT : TypeId) (w : World) : (Instr.typeAssert (.iface 225 v) xT 184 true).run Tryz.prog w = .ok (.tuple #[.nilIface, .bool false]) w := run_typeAssert_lacksB Tryz.underlying184 (by kernel_rfl) (by kernel_rfl) v xT w
theorem erNoUnwrap (v : Value) (xT : TypeId) (w : World) : (Instr.typeAssert (.iface 225 v) xT 187 true).run Tryz.prog w = .ok (.tuple #[.nilIface, .bool false]) w := run_typeAssert_lacksB Tryz.underlying187 (by kernel_rfl) (by kernel_rfl) v xT w
theorem erNoUnwraps (v : Value) (xT : TypeId) (w : World) : (Instr.typeAssert (.iface 225 v) xT 189 true).run Tryz.prog w = .ok (.tuple #[.nilIface, .bool false]) w := run_typeAssert_lacksB Tryz.underlying189 (by kernel_rfl) (by kernel_rfl) v xT w

set_option maxRecDepth 100000 in
set_option maxHeartbeats 1000000 in
/-- An error is itself. -/
theorem is_same (a : Addr) (w : World) :
    Calls Tryz.prog 92 #[.iface 225 (.pointer (some a)), .iface 225 (.pointer (some a))] w fun e w' => e = .returned (.bool true) ∧ w = w' := by
  obtain ⟨i, hi, hcmp⟩ := Option.map_eq_some_iff.1 erComp
  obtain ⟨j, hj, hjs⟩ := Option.map_eq_some_iff.1 erSize
  have h8 := @run_callFunc_extern Tryz.prog 129 _ Extern.ReflectliteType.typeOf Tryz.func129 (by kernel_rfl) (by kernel_rfl) (by kernel_rfl) (by kernel_rfl)
  have h32 := @run_callFunc_extern Tryz.prog 203 _ cmpE Tryz.func203 (by kernel_rfl) (by kernel_rfl) (by kernel_rfl) (by kernel_rfl)
  have tT := erTypeOf
  have cT := erComparable
  have mR := erMethod
  have heq := run_eql_iface_ptr_same (P := Tryz.prog) w a Tryz.underlying69 Tryz.underlying225 hi hcmp hj
  go_enter Tryz.func92, Tryz.ntmps92
  go_wp2
  refine wp_loop_rounds 1 ?_
  rw [rounds_succ]
  go_wp2
  go_ret
  exact ⟨rfl, rfl⟩
set_option maxRecDepth 100000 in
set_option maxHeartbeats 1000000 in
/-- One error is not another. -/
theorem is_other (a b : Addr) (ca cb : Array Value) (ta tb : TypeId) (w : World) (hne : a ≠ b) (ha : w.heap[a.block]? = some (.cells ca ta (0, 0))) (hb : w.heap[b.block]? = some (.cells cb tb (0, 0))) :
    Calls Tryz.prog 92 #[.iface 225 (.pointer (some a)), .iface 225 (.pointer (some b))] w fun e w' => e = .returned (.bool false) ∧ w = w' := by
  obtain ⟨i, hi, hcmp⟩ := Option.map_eq_some_iff.1 erComp
  obtain ⟨j, hj, hjs⟩ := Option.map_eq_some_iff.1 erSize
  have h8 := @run_callFunc_extern Tryz.prog 129 _ Extern.ReflectliteType.typeOf Tryz.func129 (by kernel_rfl) (by kernel_rfl) (by kernel_rfl) (by kernel_rfl)
  have h32 := @run_callFunc_extern Tryz.prog 203 _ cmpE Tryz.func203 (by kernel_rfl) (by kernel_rfl) (by kernel_rfl) (by kernel_rfl)
  have tT := erTypeOf
  have cT := erComparable
  have mR := erMethod
  have nE := erNoIs
  have uE := erNoUnwrap
  have vE := erNoUnwraps
  have heq := run_eql_iface_ptr_other (P := Tryz.prog) w Tryz.underlying69 Tryz.underlying225 hi hcmp hj (by rw [hjs]; decide) hne ha hb
  clear hne ha hb
  go_enter Tryz.func92, Tryz.ntmps92
  go_wp2
  refine wp_loop_rounds 1 ?_
  rw [rounds_succ]
  go_wp2
  go_ret
  exact ⟨rfl, rfl⟩
end Go.Proofs.YteckhdkghfidiaaGreatDoor
/- Numbers' digits: what they are, and the contract of the model's l00Digits. Conditions: the number is from 0 to 999999. -/
namespace Go.Proofs.YteckhdkghfidiaaGreatDoor
set_option linter.unusedVariables false
open Go.RowKit

/-- The digits of a number. -/
def digs (n : Nat) : List UInt8 := if n < 10 then [UInt8.ofNat (48 + n)] else digs (n / 10) ++ [UInt8.ofNat (48 + n % 10)]
/-- .. just so many. -/
def pad : Nat → Nat → List UInt8
  | 0, _ => []
  | k + 1, n => pad k (n / 10) ++ [UInt8.ofNat (48 + n % 10)]
theorem pad_len (k n : Nat) : (pad k n).length = k := by
  induction k generalizing n with
  | zero => rfl
  | succ k ih => simp [pad, ih]
theorem pad_zero (k : Nat) : pad k 0 = List.replicate k 48 := by
  induction k with
  | zero => rfl
  | succ k ih =>
    show pad k 0 ++ [48] = _
    rw [ih, List.replicate_succ']
theorem digs_lt {n : Nat} (h : n < 10) : digs n = [UInt8.ofNat (48 + n)] := by rw [digs, if_pos h]
theorem digs_ge {n : Nat} (h : ¬ n < 10) : digs n = digs (n / 10) ++ [UInt8.ofNat (48 + n % 10)] := by rw [digs, if_neg h]
theorem digs_pad (k : Nat) : ∀ n, n < 10 ^ (k + 1) → (digs n).length ≤ k + 1 ∧ List.replicate (k + 1 - (digs n).length) 48 ++ digs n = pad (k + 1) n := by
  induction k with
  | zero =>
    intro n h
    have h' : n < 10 := by simpa using h
    rw [digs_lt h']
    refine ⟨by simp, ?_⟩
    show _ = [] ++ [UInt8.ofNat (48 + n % 10)]
    rw [Nat.mod_eq_of_lt h']; simp
  | succ k ih =>
    intro n h
    by_cases h' : n < 10
    · rw [digs_lt h']
      refine ⟨by simp, ?_⟩
      show _ = pad (k + 1) (n / 10) ++ [UInt8.ofNat (48 + n % 10)]
      rw [Nat.mod_eq_of_lt h', Nat.div_eq_of_lt h', pad_zero]; simp
    · have h2 : n / 10 < 10 ^ (k + 1) := by
        rw [Nat.pow_succ] at h
        omega
      obtain ⟨hl, he⟩ := ih (n / 10) h2
      rw [digs_ge h']
      refine ⟨by simp; omega, ?_⟩
      show _ = pad (k + 1) (n / 10) ++ [UInt8.ofNat (48 + n % 10)]
      rw [← he, ← List.append_assoc]
      congr 2
      simp
theorem digs_len {n : Nat} (h : n ≤ 999999) : 1 ≤ (digs n).length ∧ (digs n).length ≤ 6 := by
  refine ⟨?_, (digs_pad 5 n (by omega)).1⟩
  by_cases h' : n < 10
  · rw [digs_lt h']; simp
  · rw [digs_ge h']; simp

theorem cv_one (y : Int) (hy : 0 ≤ y) (hy2 : y < 256) (W : World) (b : Nat) (h : W.cell? ⟨b, 0, none⟩ = some (.int .u8 y)) :
    (convert 22 9 (.slice (some ⟨b, 0, none⟩) 1 1)).run Tryz.prog W = .ok (.string ⟨#[UInt8.ofNat y.toNat]⟩) W := by
  have := run_convert_bytes_back (P := Tryz.prog) W 22 9 5 ⟨b, 0, none⟩ 1 [UInt8.ofNat y.toNat] Tryz.underlying22 Tryz.underlying5 Tryz.underlying9 (fun j hj => by
    obtain rfl : j = 0 := by simpa using hj
    have e : ((UInt8.ofNat y.toNat).toNat : Int) = y := by
      rw [UInt8.toNat_ofNat']
      omega
    simp only [List.getElem_cons_zero, e]
    simpa [Addr.add] using h)
  simpa using this
theorem Nx.cells {a w : World} (h : Nx a w) : ∀ b o, b < a.heap.size → w.cell? ⟨b, o, none⟩ = a.cell? ⟨b, o, none⟩ := fun b o hb => h.cell (p := ⟨b, o, none⟩) hb
theorem ret_str {a b : ByteArray} (h : a = b) : Ending.returned (.string a) = .returned (.string b) := by rw [h]

set_option maxRecDepth 100000 in
set_option maxHeartbeats 1000000 in
theorem l00Digits_c : ∀ (n : Nat) (w : World), n ≤ 999999 → Calls Tryz.prog 83 #[.int .i64 n] w fun e w' => e = .returned (.string ⟨(digs n).toArray⟩) ∧ Nx w w' := by
  intro n
  induction n using Nat.strongRecOn with
  | ind n ih =>
    intro w hn
    by_cases h' : n < 10
    · have hd : decide ((n : Int) < 10) = true := by simp; omega
      have hz : ((n : Int) == -9223372036854775808) = false := beq_eq_false_iff_ne.2 (by omega)
      have HD := Lib.hid (digs_lt h')
      have hcv := cv_one (48 + n) (by omega) (by omega)
      go_enter Tryz.func83, Tryz.ntmps83
      go_wp2
      go_ret
      refine ⟨ret_str ?_, (Nx.refl _).alloc _⟩
      rw [HD.out]
    · have hd : decide ((n : Int) < 10) = false := by simp; omega
      have hz : ((n : Int) == -9223372036854775808) = false := beq_eq_false_iff_ne.2 (by omega)
      have HD := Lib.hid (digs_ge h')
      obtain ⟨q, hq⟩ : ∃ q, n / 10 = q := ⟨_, rfl⟩
      obtain ⟨d, hd'⟩ : ∃ d, n % 10 = d := ⟨_, rfl⟩
      rw [hq, hd'] at HD
      have hd10 : d < 10 := by omega
      have ihq := ih q (by omega)
      have hq6 : q ≤ 999999 := by omega
      obtain ⟨hl1, hl2⟩ := digs_len hq6
      have hcv := cv_one (48 + d) (by omega) (by omega)
      have e1 : IntKind.i64.wrap ((n : Int) / 10) = (q : Int) := by
        rw [show (n : Int) / 10 = (q : Int) by omega]; exact IntWalk.i64_in _ (by omega)
      have e3 : (n : Int).tmod 10 = (d : Int) := by rw [Int.tmod_eq_emod_of_nonneg (by omega)]; omega
      have e4 : IntKind.i64.wrap (48 + (d : Int)) = 48 + d := IntWalk.i64_in _ (by omega)
      have e5 : IntKind.u8.wrap (48 + (d : Int)) = 48 + d := IntWalk.u8_in _ (by omega)
      clear hq hd' ih
      go_enter Tryz.func83, Tryz.ntmps83
      go_wp2_with fail
      go_region_with (go_at_call 83; refine (ihq _ hq6).mono ?_; rintro e w1 ⟨rfl, hnx1⟩; have hcl := hnx1.cells)
      all_goals
        clear e1 e3 e4 e5 hcv ihq hcl
        go_wp2
        go_ret
        refine ⟨ret_str ?_, ?_⟩
        · rw [HD.out, ByteArray.mk_append_mk]; simp
        · first
            | exact (Nx.drew_r hnx1).alloc _
            | exact ((Nx.refl w).alloc _).drew.trans hnx1
            | exact (((Nx.refl w).alloc _).drew.trans hnx1).drew
end Go.Proofs.YteckhdkghfidiaaGreatDoor
/- Contracts of SumOf, as the model and as the program have it: both answer the same number of every text. Conditions: the text is of at most maxLen bytes (what the model lets a text have). -/
namespace Go.Proofs.YteckhdkghfidiaaGreatDoor
set_option linter.unusedVariables false
open Go.RowKit

def sumL (l : List UInt8) : Int := l.foldl (fun n c => (n * 31 + (c.toNat : Int)) % 997) 7
theorem sumL_snoc (l : List UInt8) (c : UInt8) : sumL (l ++ [c]) = (sumL l * 31 + (c.toNat : Int)) % 997 := by
  unfold sumL; rw [List.foldl_append]; rfl
theorem sumL_bd (l : List UInt8) : 0 ≤ sumL l ∧ sumL l ≤ 996 := by
  rcases List.eq_nil_or_concat l with rfl | ⟨l', c, rfl⟩
  · exact ⟨by decide, by decide⟩
  · rw [List.concat_eq_append, sumL_snoc]; omega
/-- A text's sum. -/
def sumS (s : ByteArray) : Int := sumL s.data.toList
def sumOfS (s : ByteArray) : Int := if s.size ≤ 65536 then sumS s else 0
theorem sumOfS_yes {s : ByteArray} (h : s.size ≤ 65536) : sumS s = sumOfS s := by unfold sumOfS; rw [if_pos h]
theorem sumOfS_no {s : ByteArray} (h : ¬ s.size ≤ 65536) : 0 = sumOfS s := by unfold sumOfS; rw [if_neg h]
theorem take_snoc (s : ByteArray) (k : Nat) (h : k < s.size) : s.data.toList.take (k + 1) = s.data.toList.take k ++ [s[k]] := by
  rw [List.take_succ_eq_append_getElem (by simpa using h)]; rfl
def sumTo (s : ByteArray) (k : Nat) : Int := sumL (s.data.toList.take k)
theorem sumTo_bd (s : ByteArray) (k : Nat) : 0 ≤ sumTo s k ∧ sumTo s k ≤ 996 := sumL_bd _
theorem sumTo_zero (s : ByteArray) : sumTo s 0 = 7 := rfl
theorem sumTo_succ (s : ByteArray) (k : Nat) (h : k < s.size) : sumTo s (k + 1) = (sumTo s k * 31 + (s[k].toNat : Int)) % 997 := by
  unfold sumTo; rw [take_snoc s k h, sumL_snoc]
theorem sumTo_all (s : ByteArray) : sumTo s s.size = sumS s := by
  unfold sumTo sumS; rw [List.take_of_length_le (by simp)]

set_option maxHeartbeats 400000 in
theorem l02Sum_c (s : ByteArray) (w : World) (hs : s.size ≤ maxLen) : Calls Tryz.prog 124 #[.string s] w fun e w' => e = .returned (.int .i64 (sumS s)) ∧ w = w' := by
  unfold maxLen at hs
  go_enter Tryz.func124, Tryz.ntmps124
  go_wp2
  go_loop [3, 4] (fun n i => ∃ k : Nat, k ≤ s.size ∧ i = .int .i64 k ∧ n = .int .i64 (sumTo s k)) (fun _ i => s.size - (intOf i).toNat)
  case atStart => exact ⟨0, Nat.zero_le _, rfl, rfl⟩
  case round =>
    obtain ⟨k, hk, rfl, rfl⟩ := hrel
    obtain ⟨h1, h2⟩ := sumTo_bd s k
    by_cases hlt : k < s.size
    · have HS := Lib.hid (sumTo_succ s k hlt)
      have hc1 : (s[k].toNat : Int) ≤ 255 := by have := s[k].toNat_lt; omega
      go_wp2
      go_round
      case rel => exact ⟨k + 1, by omega, by go_num, by rw [HS.out]⟩
      case measure => simp [intOf]; omega
    · obtain rfl : k = s.size := by omega
      go_wp2
      go_ret
      exact ⟨ret_int (sumTo_all s), rfl⟩

set_option maxHeartbeats 400000 in
theorem implSumOf_c (s : ByteArray) (w : World) (hs : s.size ≤ maxLen) : Calls Tryz.prog 118 #[.string s] w fun e w' => e = .returned (.int .i64 (sumOfS s)) ∧ w = w' := by
  unfold maxLen at hs
  by_cases hb : s.size ≤ 65536
  case neg =>
    have hb' : decide (65536 < (s.size : Int)) = true := by simp; omega
    have HF := Lib.hid (sumOfS_no hb)
    go_enter Tryz.func118, Tryz.ntmps118
    go_wp2
    go_ret
    exact ⟨ret_int HF.out, rfl⟩
  have hb' : decide (65536 < (s.size : Int)) = false := by simp; omega
  have HF := Lib.hid (sumOfS_yes hb)
  go_enter Tryz.func118, Tryz.ntmps118
  go_wp2
  go_loop [3, 4] (fun n i => ∃ k : Nat, k ≤ s.size ∧ i = .int .i64 k ∧ n = .int .i64 (sumTo s k)) (fun _ i => s.size - (intOf i).toNat)
  case atStart => exact ⟨0, Nat.zero_le _, rfl, rfl⟩
  case round =>
    obtain ⟨k, hk, rfl, rfl⟩ := hrel
    obtain ⟨h1, h2⟩ := sumTo_bd s k
    by_cases hlt : k < s.size
    · have HS := Lib.hid (sumTo_succ s k hlt)
      have hc1 : (s[k].toNat : Int) ≤ 255 := by have := s[k].toNat_lt; omega
      go_wp2
      go_round
      case rel => exact ⟨k + 1, by omega, by go_num, by rw [HS.out, Int.mul_comm]⟩
      case measure => simp [intOf]; omega
    · obtain rfl : k = s.size := by omega
      go_wp2
      go_ret
      exact ⟨ret_int ((sumTo_all s).trans HF.out), rfl⟩
end Go.Proofs.YteckhdkghfidiaaGreatDoor
/- Contracts of the model's l02Six, l02Seal and l02Join: numbers' six digits, the sum's three behind a text, many numbers. Conditions: the numbers are from 0 to 999999. -/
namespace Go.Proofs.YteckhdkghfidiaaGreatDoor
set_option linter.unusedVariables false
open Go.RowKit

def sizeOfStr : Value → Nat | .string s => s.size | _ => 0
theorem ba_eq {s : ByteArray} {l : List UInt8} (h : s.data.toList = l) : s = ⟨l.toArray⟩ := by
  subst h; cases s; simp
theorem ba_app (s t : ByteArray) : (s ++ t).data.toList = s.data.toList ++ t.data.toList := by
  cases s; cases t; rw [ByteArray.mk_append_mk]
theorem ba_size (s : ByteArray) : s.size = s.data.toList.length := by rw [Array.length_toList]; rfl

theorem six_less {s t : ByteArray} (h : s.size < 6) (ht : 0 < t.size := by decide) : 6 - sizeOfStr (.string (t ++ s)) < 6 - sizeOfStr (.string s) := by
  show 6 - (t ++ s).size < 6 - s.size
  rw [ByteArray.size_append]
  omega
set_option maxHeartbeats 1000000 in
/-- A number's six digits, as the model tells them. -/
theorem l02Six_c (n : Nat) (w : World) (hn : n ≤ 999999) : Calls Tryz.prog 123 #[.int .i64 n] w fun e w' => e = .returned (.string ⟨(pad 6 n).toArray⟩) ∧ Nx w w' := by
  obtain ⟨hl, he⟩ := digs_pad 5 n (by omega)
  obtain ⟨hl1, _⟩ := digs_len hn
  have HE := Lib.hid he
  clear he
  go_enter Tryz.func123, Tryz.ntmps123
  go_wp2_with fail
  refine (l00Digits_c n _ hn).mono ?_
  rintro e w1 ⟨rfl, hnx1⟩
  obtain ⟨s0, Hs0⟩ : ∃ s : ByteArray, Hid ((⟨(digs n).toArray⟩ : ByteArray) = s) := ⟨_, rfl⟩
  rw [Hs0.out]
  go_wp2
  go_loop [3] (fun v => ∃ (s : ByteArray) (k : Nat), v = .string s ∧ k + (digs n).length ≤ 6 ∧ s.size ≤ 6 ∧ Hid (s.data.toList = List.replicate k 48 ++ digs n)) (fun v => 6 - sizeOfStr v)
  case atStart =>
    refine ⟨s0, 0, rfl, by omega, ?_, Lib.hid ?_⟩
    · rw [← Hs0.out]; simpa [ByteArray.size] using hl
    · rw [← Hs0.out]; simp
  case round =>
    obtain ⟨s, k, rfl, hk, hs6, HS⟩ := hrel
    have hsz : s.size = k + (digs n).length := by rw [ba_size, HS.out]; simp
    by_cases hlt : s.size < 6
    · have hd : decide ((s.size : Int) < 6) = true := by simp; omega
      have Hsz := Lib.hid hsz
      clear hsz
      go_wp2
      go_round
      case rel =>
        refine ⟨_, k + 1, rfl, by have := Hsz.out; omega, ?_, Lib.hid ?_⟩
        · rw [ba_size, ba_app]; simp; have := ba_size s; simp at this; omega
        · rw [ba_app, HS.out]; simp [List.replicate_succ]
      case measure => exact six_less hlt
    · have hd : decide ((s.size : Int) < 6) = false := by simp; omega
      have hk6 : k = 6 - (digs n).length := by omega
      have HK := Lib.hid hk6
      clear hsz hk6
      go_wp2
      go_ret
      refine ⟨ret_str (ba_eq ?_), hnx1⟩
      rw [HS.out, HK.out, HE.out]

/-- The sum's three digits. -/
def sumD (s : ByteArray) : List UInt8 := pad 3 (sumS s).toNat
theorem pad_drop (j k n : Nat) : (pad (k + j) n).drop k = pad j n ∧ True := by
  induction j generalizing n with
  | zero => refine ⟨?_, trivial⟩; show (pad k n).drop k = []; rw [List.drop_of_length_le (by rw [pad_len]; omega)]
  | succ j ih =>
    refine ⟨?_, trivial⟩
    show (pad (k + j) (n / 10) ++ [_]).drop k = pad j (n / 10) ++ [_]
    rw [List.drop_append_of_le_length (by rw [pad_len]; omega), (ih (n / 10)).1]
set_option maxHeartbeats 1000000 in
/-- A text and its sum behind, as the model tells it. -/
theorem l02Seal_c (s : ByteArray) (w : World) (hs : s.size ≤ 1048576) : Calls Tryz.prog 84 #[.string s] w fun e w' => e = .returned (.string (s ++ ⟨(sumD s).toArray⟩)) ∧ Nx w w' := by
  obtain ⟨h0, h1⟩ := sumL_bd s.data.toList
  obtain ⟨q, hq⟩ : ∃ q : Nat, sumS s = (q : Int) := ⟨(sumS s).toNat, by have : 0 ≤ sumS s := h0; omega⟩
  have hq6 : q ≤ 996 := by have : sumS s ≤ 996 := h1; omega
  have HD := Lib.hid (show sumD s = pad 3 q by unfold sumD; rw [hq]; rfl)
  have HQ := Lib.hid hq
  clear hq
  go_enter Tryz.func84, Tryz.ntmps84
  go_wp2_with fail
  refine (l02Sum_c s _ (by unfold maxLen; omega)).mono ?_
  rintro e w1 ⟨rfl, rfl⟩
  rw [HQ.out]
  go_wp2_with fail
  refine (l02Six_c q _ (by omega)).mono ?_
  rintro e w1 ⟨rfl, hnx1⟩
  obtain ⟨d, Hd⟩ : ∃ d : ByteArray, Hid ((⟨(pad 6 q).toArray⟩ : ByteArray) = d) := ⟨_, rfl⟩
  have hd6 : d.size = 6 := by rw [← Hd.out]; simp [ByteArray.size, pad_len]
  rw [Hd.out]
  have hd7 : 3 ≤ d.size := by omega
  have hd8 : d.size ≤ 6 := by omega
  have Hd6 := Lib.hid hd6
  clear hd6
  go_wp2
  go_ret
  refine ⟨ret_str ?_, hnx1⟩
  congr 1
  refine ba_eq ?_
  rw [Lib.extract_data, Hd6.out, HD.out, ← Hd.out]
  have h6 := (pad_drop 3 3 q).1
  simpa [List.take_of_length_le, pad_len] using h6

/-- Many numbers' digits. -/
def padAll (ns : List Nat) : List UInt8 := ns.flatMap (pad 6)
theorem padAll_len (ns : List Nat) : (padAll ns).length = ns.length * 6 := by
  unfold padAll
  induction ns with
  | nil => rfl
  | cons a l ih => simp [pad_len, ih]; omega
def intAt (ns : List Nat) (i : Nat) : Value := .int .i64 (ns.getD i 0 : Nat)
def All6 (ns : List Nat) : Prop := ∀ k, k < ns.length → ns.getD k 0 ≤ 999999
def padTo (ns : List Nat) (k : Nat) : List UInt8 := padAll (ns.take k)
theorem padTo_len (ns : List Nat) (k : Nat) (h : k ≤ ns.length) : (padTo ns k).length = k * 6 := by
  unfold padTo; rw [padAll_len, List.length_take, Nat.min_eq_left h]
theorem padTo_succ (ns : List Nat) (k : Nat) (h : k < ns.length) : padTo ns (k + 1) = padTo ns k ++ pad 6 (ns.getD k 0) := by
  unfold padTo padAll
  rw [List.take_succ_eq_append_getElem h, List.flatMap_append, List.getD_eq_getElem?_getD, List.getElem?_eq_getElem h]; simp
theorem padTo_all (ns : List Nat) : padTo ns ns.length = padAll ns := by unfold padTo; rw [List.take_length]
set_option maxHeartbeats 1000000 in
/-- Many numbers, as the model tells them. -/
theorem l02Join_c (A : Option Addr) (c B : Nat) (ns : List Nat) (w : World) (h : Row w B A ns.length (intAt ns)) (hB : B ≤ w.heap.size) (h6 : All6 ns) (hn : ns.length ≤ 1000) :
    Calls Tryz.prog 85 #[.slice A ns.length c] w fun e w' => e = .returned (.string ⟨(padAll ns).toArray⟩) ∧ Nx w w' := by
  go_enter Tryz.func85, Tryz.ntmps85
  go_wp2
  go_loopw [3, 4] (fun v i wr => ∃ (k : Nat) (s : ByteArray), k ≤ ns.length ∧ i = .int .i64 k ∧ v = .string s ∧ s.size ≤ 6000 ∧ Hid (s.data.toList = padTo ns k) ∧ Nx w wr) (fun _ i _ => ns.length - (intOf i).toNat)
  case atStart => exact ⟨0, ⟨#[]⟩, Nat.zero_le _, rfl, rfl, by decide, Lib.hid rfl, Nx.refl _⟩
  case round =>
    obtain ⟨k, s, hk, rfl, rfl, hs, HS, hnx⟩ := hrel
    by_cases hlt : k < ns.length
    · obtain ⟨b, off, rfl, hb, hc0⟩ := (h.below hnx hB) (by omega)
      have hc := hc0 k hlt
      have hn6 := h6 k hlt
      have HP := Lib.hid (padTo_succ ns k hlt)
      have HL := Lib.hid (padTo_len ns k hk)
      clear hc0
      unfold intAt at hc
      obtain ⟨x, Hx⟩ : ∃ x, Hid (ns.getD k 0 = x) := ⟨_, rfl⟩
      rw [Hx.out] at hc hn6 HP
      go_wp2_with fail
      refine (l02Six_c x _ hn6).mono ?_
      rintro e w1 ⟨rfl, hnx1⟩
      obtain ⟨d, Hd⟩ : ∃ d : ByteArray, Hid ((⟨(pad 6 x).toArray⟩ : ByteArray) = d) := ⟨_, rfl⟩
      have hd6 : d.size ≤ 6 := by rw [← Hd.out]; simp [ByteArray.size, pad_len]
      rw [Hd.out]
      go_wp2
      go_roundw
      case rel =>
        have hds : d.data.toList = pad 6 x := by rw [← Hd.out]
        have hsz : (s ++ d).data.toList = padTo ns (k + 1) := by rw [ba_app, HS.out, HP.out, hds]
        exact ⟨k + 1, _, by omega, by go_num, rfl, by rw [ba_size, hsz, padTo_len _ _ (by omega)]; omega, Lib.hid hsz, hnx.trans hnx1⟩
      case measure => simp [intOf]; omega
    · obtain rfl : k = ns.length := by omega
      go_wp2
      go_ret
      exact ⟨ret_str (ba_eq (by rw [HS.out, padTo_all])), hnx⟩
end Go.Proofs.YteckhdkghfidiaaGreatDoor
