/-
  Words on memory for the texts of this seat: blocks of the call's own, blocks that are known whole, what a size is, and how these facts go on from world to world.
  Conditions: none.
-/
import Derived.Test.YtihpadelfpogmaaRows
import Derived.WalkKit
import Derived.ProofKit
import Derived.OpenShut
import Derived.ShutString
import Derived.WalkSpells
import Derived.Lib.Hide
import Derived.Below
import Derived.Laws.OwnMore
import Derived.Deep.Draws
import Derived.Laws.Rows
import Derived.Laws.MakeOwn
import Derived.Laws.Entries
import Derived.OwnWalk
namespace Go.Proofs.Ytihpadelfpogmaa
set_option linter.unusedVariables false
set_option maxRecDepth 100000
open Go.RowKit

theorem ret_bool {a b : Bool} (h : a = b) : Ending.returned (.bool a) = .returned (.bool b) := by rw [h]
theorem ret_int {a b : Int} (h : a = b) : Ending.returned (.int .i64 a) = .returned (.int .i64 b) := by rw [h]

/-- Nothing that was there has turned. -/
abbrev Nx (w w' : World) : Prop := Below w.heap.size w w'
theorem Nx.refl (w : World) : Nx w w := Below.refl _ _
theorem Nx.trans {a b c : World} (h : Nx a b) (k : Nx b c) : Nx a c := Below.trans h (Below.mono k h.size)
theorem Nx.alloc {a w : World} (h : Nx a w) (o : Obj) : Nx a (w.alloc o) := Below.alloc h h.size o
theorem Nx.drew {a w : World} (h : Nx a w) : Nx a w.drew := ⟨h.os, h.tape, h.output, h.size, h.block⟩
theorem Nx.drewN {a w : World} (h : Nx a w) (n : Nat) : Nx a (w.drewN n) := ⟨h.os, h.tape, h.output, h.size, h.block⟩
theorem Nx.drew_r {a w : World} (h : Nx a.drew w) : Nx a w := ⟨h.os, h.tape, h.output, h.size, h.block⟩

/-- The cells from an address on, in a block below B. -/
def Row (w : World) (B : Nat) (A : Option Addr) (m : Nat) (f : Nat → Value) : Prop :=
  0 < m → ∃ b off, A = some ⟨b, off, none⟩ ∧ b < B ∧ ∀ i, i < m → w.cell? ⟨b, off + i, none⟩ = some (f i)
theorem Row.keep {w w' : World} {B m : Nat} {A : Option Addr} {f : Nat → Value} (h : Row w B A m f) (hk : ∀ p : Addr, p.block < B → w'.cell? p = w.cell? p) : Row w' B A m f := fun hm => by
  obtain ⟨b, off, e, hb, hc⟩ := h hm
  exact ⟨b, off, e, hb, fun i hi => (hk _ hb).trans (hc i hi)⟩
theorem Row.more {w : World} {B B' m : Nat} {A : Option Addr} {f : Nat → Value} (h : Row w B A m f) (hB : B ≤ B') : Row w B' A m f := fun hm => by
  obtain ⟨b, off, e, hb, hc⟩ := h hm
  exact ⟨b, off, e, by omega, hc⟩
theorem Row.below {w w' : World} {B B' m : Nat} {A : Option Addr} {f : Nat → Value} (h : Row w B A m f) (hb : Below B' w w') (hB : B ≤ B') : Row w' B A m f := h.keep fun _ hp => hb.cell (by omega)

/-- A slice of bools that is read. -/
def blAt (bs : List Bool) (i : Nat) : Value := .bool (bs.getD i false)
def Bls (w : World) (B : Nat) (A : Option Addr) (n : Nat) (bs : List Bool) : Prop := bs.length = n ∧ Row w B A n (blAt bs)
theorem Bls.below {w w' : World} {B B' n : Nat} {A : Option Addr} {bs : List Bool} (h : Bls w B A n bs) (hb : Below B' w w') (hB : B ≤ B') : Bls w' B A n bs := ⟨h.1, h.2.below hb hB⟩
theorem Bls.more {w : World} {B B' n : Nat} {A : Option Addr} {bs : List Bool} (h : Bls w B A n bs) (hB : B ≤ B') : Bls w B' A n bs := ⟨h.1, h.2.more hB⟩
theorem Bls.at_ {w : World} {B n k : Nat} {A : Option Addr} {bs : List Bool} (h : Bls w B A n bs) (hk : k < n) :
    ∃ b off, A = some ⟨b, off, none⟩ ∧ b < B ∧ w.cell? ⟨b, off + k, none⟩ = some (.bool (bs.getD k false)) := by
  obtain ⟨b, off, e, hb, hc⟩ := h.2 (by omega)
  exact ⟨b, off, e, hb, hc k hk⟩
/-- What is left of a size behind a cost: -1 if it is not enough. -/
def szR (left cost : Int) : Int := if cost ≤ left then left - cost else -1
theorem sum_take_succ (l : List Nat) (k : Nat) (h : k < l.length) : (l.take (k + 1)).sum = (l.take k).sum + l[k] := by
  rw [List.take_succ_eq_append_getElem h, List.sum_append]; simp
theorem sum_take_le (l : List Nat) (k : Nat) : (l.take k).sum ≤ l.sum := by
  have : l.sum = (l.take k).sum + (l.drop k).sum := by rw [← List.sum_append, List.take_append_drop]
  omega
theorem szR_no {left cost : Int} (h : left < cost) : -1 = szR left cost := by unfold szR; rw [if_neg (by omega)]
theorem szR_yes {left cost : Int} (h : cost ≤ left) : left - cost = szR left cost := by unfold szR; rw [if_pos h]
theorem szR_szR {left a b : Int} (h : a ≤ left) : szR (szR left a) b = szR left (a + b) := by
  unfold szR
  rw [if_pos h]
  by_cases hc : a + b ≤ left
  · rw [if_pos (by omega), if_pos hc]; omega
  · rw [if_neg (by omega), if_neg hc]

/-- A block of the call's own, known whole, none of it frozen: its first m cells are f. -/
def Own (w : World) (g : Nat) (t : TypeId) (m : Nat) (f : Nat → Value) : Prop :=
  ∃ cs : Array Value, w.heap[g]? = some (.cells cs t (0, 0)) ∧ m ≤ cs.size ∧ ∀ i, i < m → cs[i]? = some (f i)
section
variable {w w' : World} {g : Nat} {t : TypeId} {m : Nat} {f : Nat → Value}
theorem Own.lt (h : Own w g t m f) : g < w.heap.size := by
  obtain ⟨cs, h, _⟩ := h
  rcases Nat.lt_or_ge g w.heap.size with hlt | hge
  · exact hlt
  · rw [Array.getElem?_eq_none hge] at h; cases h
theorem Own.cell (h : Own w g t m f) {i : Nat} (hi : i < m) : w.cell? ⟨g, i, none⟩ = some (f i) := by
  obtain ⟨cs, h, _, hc⟩ := h
  exact (cell_of_row w g i cs t (0, 0) h).trans (hc i hi)
theorem Own.frozen (h : Own w g t m f) (i : Nat) : w.frozen? ⟨g, i, none⟩ = false := by
  obtain ⟨cs, h, _⟩ := h
  simp [World.frozen?, h]
theorem Own.of_block (h : Own w g t m f) (hb : w'.heap[g]? = w.heap[g]?) : Own w' g t m f := by
  obtain ⟨cs, h, r⟩ := h
  exact ⟨cs, hb.trans h, r⟩
theorem Own.below {B : Nat} (h : Own w g t m f) (hb : Below B w w') (hg : g < B) : Own w' g t m f := h.of_block (hb.block g hg)
theorem Own.nx (h : Own w g t m f) (hb : Nx w w') : Own w' g t m f := h.of_block (hb.block g h.lt)
theorem Own.row (h : Own w g t m f) {B : Nat} (hB : g < B) : Row w B (some ⟨g, 0, none⟩) m f := fun _ =>
  ⟨g, 0, rfl, hB, fun i hi => by rw [Nat.zero_add]; exact h.cell hi⟩
theorem Own.set (h : Own w g t m f) {k : Nat} (hk : k < m) (v : Value) : Own (w.setCell ⟨g, k, none⟩ v) g t m (fun i => if i = k then v else f i) := by
  obtain ⟨cs, h, hm, hc⟩ := h
  refine ⟨cs.setIfInBounds k v, ?_, by simpa using hm, fun i hi => ?_⟩
  · simp [World.setCell, Array.getElem?_modify, h]
  · rw [Array.getElem?_setIfInBounds]
    by_cases e : k = i
    · subst e; rw [if_pos rfl, if_pos (by omega)]; simp
    · rw [if_neg e, hc i hi]; show some (f i) = some (if i = k then v else f i); rw [if_neg (fun h : i = k => e h.symm)]
theorem Own.far (h : Own w g t m f) {p : Addr} (hp : g ≠ p.block) (v : Value) : Own (w.setCell p v) g t m f := h.of_block (Below.heap_setCell w p v g hp)
theorem Own.alloc (h : Own w g t m f) (o : Obj) : Own (w.alloc o) g t m f := h.of_block (Below.heap_alloc w o g h.lt)
theorem Own.drewN (h : Own w g t m f) (n : Nat) : Own (w.drewN n) g t m f := h
theorem Own.congr {f' : Nat → Value} (h : Own w g t m f) (hf : ∀ i, i < m → f i = f' i) : Own w g t m f' := by
  obtain ⟨cs, h, hm, hc⟩ := h
  exact ⟨cs, h, hm, fun i hi => by rw [← hf i hi]; exact hc i hi⟩
theorem Own.less {m' : Nat} (h : Own w g t m f) (hm : m' ≤ m) : Own w g t m' f := by
  obtain ⟨cs, h, hm', hc⟩ := h
  exact ⟨cs, h, by omega, fun i hi => hc i (by omega)⟩
end
/-- A block of the call's own that is being filled: its first k cells are F already. -/
def Fill (w : World) (g : Nat) (t : TypeId) (m k : Nat) (F : Nat → Value) : Prop := ∃ f, Own w g t m f ∧ ∀ i, i < k → f i = F i
section
variable {w w' : World} {g : Nat} {t : TypeId} {m k : Nat} {f F : Nat → Value}
theorem Fill.start (h : Own w g t m f) : Fill w g t m 0 F := ⟨f, h, fun i hi => absurd hi (by omega)⟩
theorem Fill.lt (h : Fill w g t m k F) : g < w.heap.size := by
  obtain ⟨f, h, _⟩ := h; exact h.lt
theorem Fill.some_ (h : Fill w g t m k F) {i : Nat} (hi : i < m) : ∃ v, w.cell? ⟨g, i, none⟩ = some v := by
  obtain ⟨f, h, _⟩ := h; exact ⟨_, h.cell hi⟩
theorem Fill.frozen (h : Fill w g t m k F) (i : Nat) : w.frozen? ⟨g, i, none⟩ = false := by
  obtain ⟨f, h, _⟩ := h; exact h.frozen i
theorem Fill.step (h : Fill w g t m k F) (hk : k < m) {v : Value} (hv : v = F k) : Fill (w.setCell ⟨g, k, none⟩ v) g t m (k + 1) F := by
  obtain ⟨f, h, hf⟩ := h
  refine ⟨_, h.set hk v, fun i hi => ?_⟩
  by_cases e : i = k
  · subst e; simp [hv]
  · simp only [if_neg e]; exact hf i (by omega)
theorem Fill.done (h : Fill w g t m m F) : Own w g t m F := by
  obtain ⟨f, h, hf⟩ := h; exact h.congr hf
theorem Fill.nx (h : Fill w g t m k F) (hb : Nx w w') : Fill w' g t m k F := by
  obtain ⟨f, h, hf⟩ := h; exact ⟨f, h.nx hb, hf⟩
theorem Nx.setCell {a w : World} (h : Nx a w) {p : Addr} (hp : a.heap.size ≤ p.block) (v : Value) : Nx a (w.setCell p v) := Below.setCell h hp v
end
theorem Own.made (w : World) (z : Array Value) (n : Nat) (t : TypeId) : Own (w.alloc (.cells (madeCells z n) t)) w.heap.size t n (fun i => z[i % z.size]!) :=
  ⟨_, heap_alloc_new w _, by rw [size_madeCells]; exact Nat.le_refl _, fun i hi => by simp [madeCells, hi]⟩
theorem run_make_rowN {P : Program} (t e : TypeId) (i : TypeInfo) (z : Value) (ht : P.underlying t = some (.slice e)) (hi : P.info? e = some i) (hz : i.zero = some z)
    (kl kc : IntKind) (n c : Nat) (hnc : n ≤ c) (hbytes : i.bytes * c ≤ 281474976710656) (h63 : c ≤ 9223372036854775807) (w : World) :
    (Instr.makeSlice t (.int kl (n : Int)) (.int kc (c : Int))).run P w = .ok (.slice (some ⟨w.heap.size, 0, none⟩) n c) (w.alloc (.cells (madeCells z.cells (c * i.size)) e)) := by
  have hb : (i.bytes : Int) * (c : Int) ≤ 281474976710656 := by
    have h : ((i.bytes * c : Nat) : Int) ≤ 281474976710656 := by omega
    rwa [Int.natCast_mul] at h
  have hr := run_make (P := P) w t e i z ht hi hz kl kc n c (by omega) (by omega) hb (by omega)
  simp only [Int.toNat_natCast] at hr
  exact hr
/-- Of what was there nothing has turned but, perhaps, the blocks from lo to below hi. -/
structure Rg (lo hi : Nat) (w w' : World) : Prop where
  os : w'.os = w.os
  tape : w'.tape = w.tape
  output : w'.output = w.output
  size : w.heap.size ≤ w'.heap.size
  block : ∀ k, k < w.heap.size → (k < lo ∨ hi ≤ k) → w'.heap[k]? = w.heap[k]?
theorem Rg.of_nx {lo hi : Nat} {w w' : World} (h : Nx w w') : Rg lo hi w w' := ⟨h.os, h.tape, h.output, h.size, fun k hk _ => h.block k hk⟩
theorem Rg.trans {lo hi : Nat} {a b c : World} (h : Rg lo hi a b) (k : Rg lo hi b c) : Rg lo hi a c :=
  ⟨k.os.trans h.os, k.tape.trans h.tape, k.output.trans h.output, Nat.le_trans h.size k.size, fun i hi' hr => (k.block i (Nat.lt_of_lt_of_le hi' h.size) hr).trans (h.block i hi' hr)⟩
theorem Rg.setCell {lo hi : Nat} {a w : World} (h : Rg lo hi a w) {p : Addr} (h1 : lo ≤ p.block) (h2 : p.block < hi) (v : Value) : Rg lo hi a (w.setCell p v) :=
  h.trans ⟨rfl, rfl, rfl, by simp [World.setCell], fun k _ hr => Below.heap_setCell _ _ _ _ (by omega)⟩
theorem Rg.below {lo hi : Nat} {w w' : World} (h : Rg lo hi w w') (hB : lo ≤ w.heap.size) : Below lo w w' := ⟨h.os, h.tape, h.output, h.size, fun k hk => h.block k (by omega) (.inl hk)⟩
theorem Rg.nx_of {lo hi : Nat} {a w w' : World} (h : Nx a w) (k : Rg lo hi w w') (hl : a.heap.size ≤ lo) : Nx a w' :=
  ⟨k.os.trans h.os, k.tape.trans h.tape, k.output.trans h.output, Nat.le_trans h.size k.size, fun i hi' => (k.block i (Nat.lt_of_lt_of_le hi' h.size) (.inl (by omega))).trans (h.block i hi')⟩
theorem Own.rg {lo hi : Nat} {w w' : World} {g : Nat} {t : TypeId} {m : Nat} {f : Nat → Value} (h : Own w g t m f) (hb : Rg lo hi w w') (hg : g < lo ∨ hi ≤ g) : Own w' g t m f := h.of_block (hb.block g h.lt hg)
/-- Blocks of the call's own that hold another type than t have not turned. -/
def TyK (t : TypeId) (w w' : World) : Prop := ∀ g t' m f, t' ≠ t → Own w g t' m f → Own w' g t' m f
theorem TyK.refl (t : TypeId) (w : World) : TyK t w w := fun _ _ _ _ _ h => h
theorem TyK.nx {t : TypeId} {a w w' : World} (h : TyK t a w) (hb : Nx w w') : TyK t a w' := fun g t' m f hne ho => (h g t' m f hne ho).nx hb
theorem Own.ne_type {w : World} {g g' : Nat} {t t' : TypeId} {m m' : Nat} {f f' : Nat → Value} (h : Own w g t m f) (h' : Own w g' t' m' f') (hne : t' ≠ t) : g' ≠ g := by
  rintro rfl
  obtain ⟨cs, h, _⟩ := h
  obtain ⟨cs', h', _⟩ := h'
  rw [h] at h'
  injection h' with h'
  injection h' with _ ht
  exact hne ht.symm
theorem TyK.set {t : TypeId} {a w : World} (h : TyK t a w) {g i m : Nat} {f : Nat → Value} (ho : Own w g t m f) (v : Value) : TyK t a (w.setCell ⟨g, i, none⟩ v) := fun g' t' m' f' hne h' =>
  (h g' t' m' f' hne h').far (Own.ne_type ho (h g' t' m' f' hne h') hne) v
theorem TyK.set_fill {t : TypeId} {a w : World} (h : TyK t a w) {g i m k : Nat} {F : Nat → Value} (ho : Fill w g t m k F) (v : Value) : TyK t a (w.setCell ⟨g, i, none⟩ v) := by
  obtain ⟨f, ho, _⟩ := ho; exact h.set ho v
/-- A block that is known whole. -/
def Box (w : World) (g : Nat) (t : TypeId) (cs : Array Value) : Prop := w.heap[g]? = some (.cells cs t (0, 0))
section
variable {w w' : World} {g : Nat} {t : TypeId} {cs : Array Value} {v0 v1 : Value}
theorem Box.lt (h : Box w g t cs) : g < w.heap.size := by
  rcases Nat.lt_or_ge g w.heap.size with hlt | hge
  · exact hlt
  · unfold Box at h; rw [Array.getElem?_eq_none hge] at h; cases h
theorem Box.new (w : World) (t : TypeId) (cs : Array Value) : Box (w.alloc (.cells cs t)) w.heap.size t cs := heap_alloc_new w _
theorem Box.alloc (h : Box w g t cs) (o : Obj) : Box (w.alloc o) g t cs := (Below.heap_alloc w o g h.lt).trans h
theorem Box.nx (h : Box w g t cs) (hb : Nx w w') : Box w' g t cs := (hb.block g h.lt).trans h
theorem Box.rg {lo hi : Nat} (h : Box w g t cs) (hb : Rg lo hi w w') (hg : g < lo ∨ hi ≤ g) : Box w' g t cs := (hb.block g h.lt hg).trans h
theorem Box.grown {row : Option Nat} (h : Box w g t cs) (hb : w.grownBy w' row) (hg : some g ≠ row) : Box w' g t cs := (hb.block g h.lt hg).trans h
theorem Box.far (h : Box w g t cs) {p : Addr} (hp : g ≠ p.block) (u : Value) : Box (w.setCell p u) g t cs := (Below.heap_setCell w p u g hp).trans h
theorem Box.cell (h : Box w g t cs) (i : Nat) : w.cell? ⟨g, i, none⟩ = cs[i]? := cell_of_row w g i cs t (0, 0) h
theorem Box.frozen (h : Box w g t cs) (i : Nat) : w.frozen? ⟨g, i, none⟩ = false := by
  unfold Box at h
  simp [World.frozen?, h]
theorem Box.c0 (h : Box w g t #[v0, v1]) : w.cell? ⟨g, 0, none⟩ = some v0 := h.cell 0
theorem Box.c1 (h : Box w g t #[v0, v1]) : w.cell? ⟨g, 1, none⟩ = some v1 := h.cell 1
theorem Box.set0 (h : Box w g t #[v0, v1]) (u : Value) : Box (w.setCell ⟨g, 0, none⟩ u) g t #[u, v1] := by
  unfold Box at h ⊢
  simp [World.setCell, Array.getElem?_modify, h]
theorem Box.set1 (h : Box w g t #[v0, v1]) (u : Value) : Box (w.setCell ⟨g, 1, none⟩ u) g t #[v0, u] := by
  unfold Box at h ⊢
  simp [World.setCell, Array.getElem?_modify, h]
end
/-- A slice's m cells lie in a block of the call's own, from block number lo on. -/
def Sl (w : World) (lo : Nat) (A : Option Addr) (t : TypeId) (m : Nat) (f : Nat → Value) : Prop := 0 < m → ∃ g, A = some ⟨g, 0, none⟩ ∧ lo ≤ g ∧ Own w g t m f
/-- .. its number from lo to below hi. -/
def Sr (w : World) (lo hi : Nat) (A : Option Addr) (t : TypeId) (m : Nat) (f : Nat → Value) : Prop := 0 < m → ∃ g, A = some ⟨g, 0, none⟩ ∧ lo ≤ g ∧ g < hi ∧ Own w g t m f
section
variable {w w' : World} {lo lo' hi : Nat} {A : Option Addr} {t : TypeId} {m : Nat} {f : Nat → Value}
theorem Sl.none_ (w : World) (lo : Nat) (A : Option Addr) (t : TypeId) (f : Nat → Value) : Sl w lo A t 0 f := fun h => absurd h (by omega)
theorem Sl.nx (h : Sl w lo A t m f) (hb : Nx w w') : Sl w' lo A t m f := fun hm => by
  obtain ⟨g, e, hl, ho⟩ := h hm; exact ⟨g, e, hl, ho.nx hb⟩
theorem Sl.low (h : Sl w lo A t m f) (hl : lo' ≤ lo) : Sl w lo' A t m f := fun hm => by
  obtain ⟨g, e, hl2, ho⟩ := h hm; exact ⟨g, e, Nat.le_trans hl hl2, ho⟩
theorem Sl.row (h : Sl w lo A t m f) : Row w w.heap.size A m f := fun hm => by
  obtain ⟨g, e, hl, ho⟩ := h hm; subst e; exact ho.row ho.lt hm
theorem Sl.sr (h : Sl w lo A t m f) : Sr w lo w.heap.size A t m f := fun hm => by
  obtain ⟨g, e, hl, ho⟩ := h hm; exact ⟨g, e, hl, ho.lt, ho⟩
theorem Sl.own {g : Nat} (h : Own w g t m f) (hg : lo ≤ g) : Sl w lo (some ⟨g, 0, none⟩) t m f := fun _ => ⟨g, rfl, hg, h⟩
theorem Sl.far (h : Sl w lo A t m f) {p : Addr} (hp : p.block < lo) (v : Value) : Sl (w.setCell p v) lo A t m f := fun hm => by
  obtain ⟨g, e, hl, ho⟩ := h hm; exact ⟨g, e, hl, ho.far (by omega) v⟩
theorem Sl.far_ty (h : Sl w lo A t m f) {p : Addr} {t' : TypeId} {cs : Array Value} (hp : Box w p.block t' cs) (ht : t' ≠ t) (v : Value) : Sl (w.setCell p v) lo A t m f := fun hm => by
  obtain ⟨g, e, hl, ho⟩ := h hm
  refine ⟨g, e, hl, ho.far (fun he => ?_) v⟩
  obtain ⟨cs', hc, _⟩ := ho
  unfold Box at hp
  rw [← he, hc] at hp
  injection hp with hp
  injection hp with _ hp
  exact ht hp.symm
theorem Sr.sl (h : Sr w lo hi A t m f) : Sl w lo A t m f := fun hm => by
  obtain ⟨g, e, hl, _, ho⟩ := h hm; exact ⟨g, e, hl, ho⟩
theorem Sr.nx (h : Sr w lo hi A t m f) (hb : Nx w w') : Sr w' lo hi A t m f := fun hm => by
  obtain ⟨g, e, hl, hh, ho⟩ := h hm; exact ⟨g, e, hl, hh, ho.nx hb⟩
theorem Sr.rg {a b : Nat} (h : Sr w lo hi A t m f) (hb : Rg a b w w') (hd : hi ≤ a ∨ b ≤ lo) : Sr w' lo hi A t m f := fun hm => by
  obtain ⟨g, e, hl, hh, ho⟩ := h hm; exact ⟨g, e, hl, hh, ho.rg hb (by omega)⟩
theorem Sr.ty {t' : TypeId} (h : Sr w lo hi A t m f) (hb : TyK t' w w') (hne : t ≠ t') : Sr w' lo hi A t m f := fun hm => by
  obtain ⟨g, e, hl, hh, ho⟩ := h hm; exact ⟨g, e, hl, hh, hb _ _ _ _ hne ho⟩
end
theorem Box.set {w : World} {g : Nat} {t : TypeId} {cs : Array Value} (h : Box w g t cs) (i : Nat) (u : Value) : Box (w.setCell ⟨g, i, none⟩ u) g t (cs.setIfInBounds i u) := by
  unfold Box at h ⊢
  simp [World.setCell, Array.getElem?_modify, h]
/-- A result's box of four cells, filled at the end. -/
def put4 (u : World) (g : Nat) (v0 v1 v2 v3 : Value) : World := (((u.setCell ⟨g, 0, none⟩ v0).setCell ⟨g, 1, none⟩ v1).setCell ⟨g, 2, none⟩ v2).setCell ⟨g, 3, none⟩ v3
theorem put4_box {u : World} {g : Nat} {t : TypeId} {a b c d : Value} (hb : Box u g t #[a, b, c, d]) (v0 v1 v2 v3 : Value) : Box (put4 u g v0 v1 v2 v3) g t #[v0, v1, v2, v3] :=
  (((hb.set 0 v0).set 1 v1).set 2 v2).set 3 v3
theorem put4_nx {w u : World} {g : Nat} (hx : Nx w u) (hg : w.heap.size ≤ g) (v0 v1 v2 v3 : Value) : Nx w (put4 u g v0 v1 v2 v3) :=
  (((hx.setCell (p := ⟨g, 0, none⟩) hg v0).setCell (p := ⟨g, 1, none⟩) hg v1).setCell (p := ⟨g, 2, none⟩) hg v2).setCell (p := ⟨g, 3, none⟩) hg v3
theorem Box.d3 {w : World} {g : Nat} {t : TypeId} {v0 v1 v2 : Value} (h : Box w g t #[v0, v1, v2]) : w.cell? ⟨g, 0, none⟩ = some v0 ∧ w.cell? ⟨g, 1, none⟩ = some v1 ∧ w.cell? ⟨g, 2, none⟩ = some v2 :=
  ⟨h.cell 0, h.cell 1, h.cell 2⟩
theorem Box.d4 {w : World} {g : Nat} {t : TypeId} {v0 v1 v2 v3 : Value} (h : Box w g t #[v0, v1, v2, v3]) : w.cell? ⟨g, 0, none⟩ = some v0 ∧ w.cell? ⟨g, 1, none⟩ = some v1 ∧ w.cell? ⟨g, 2, none⟩ = some v2 ∧ w.cell? ⟨g, 3, none⟩ = some v3 :=
  ⟨h.cell 0, h.cell 1, h.cell 2, h.cell 3⟩
end Go.Proofs.Ytihpadelfpogmaa
