/-
  Rows of segments of the call's own: they grow by one, and their last one is turned.
  Conditions: those of each theorem.
-/
import Derived.Test.YtckekkhfjcaclaaChv
import Derived.Test.YtckekkhfjcaclaaCne
import Derived.Test.YtckekkhfjcaclaaSgm
namespace Go.Proofs.Ytckekkhfjcaclaa
set_option linter.unusedVariables false
open Go.RowKit

def gCs (g : SgR) : List Value := [.int .i64 g.f, .int .i64 g.t, .int .i64 g.m, .slice g.A g.cs.length g.c]
def gVs (gs : List SgR) : List Value := gs.flatMap gCs
theorem gVs_len : ∀ gs : List SgR, (gVs gs).length = gs.length * 4
  | [] => rfl
  | g :: gs => by
    show (gCs g ++ gVs gs).length = _
    rw [List.length_append, gVs_len gs, List.length_cons]
    unfold gCs
    simp only [List.length_cons, List.length_nil]; omega
theorem gVs_snoc (gs : List SgR) (g : SgR) : gVs (gs ++ [g]) = gVs gs ++ gCs g := by
  unfold gVs; rw [List.flatMap_append]; simp
theorem gVs_get : ∀ (gs : List SgR) (i : Nat), i < gs.length * 4 → (gVs gs)[i]? = some (sgAt gs i)
  | [], i, h => by simp at h
  | g :: gs, i, h => by
    show (gCs g ++ gVs gs)[i]? = _
    by_cases hi : i < 4
    · rw [List.getElem?_append_left (by simpa [gCs] using hi)]
      match i, hi with
      | 0, _ => rfl
      | 1, _ => rfl
      | 2, _ => rfl
      | 3, _ => rfl
    · rw [List.getElem?_append_right (by simpa [gCs] using hi)]
      show (gVs gs)[i - 4]? = _
      rw [gVs_get gs (i - 4) (by simp at h; omega)]
      have e1 : (i - 4) % 4 = i % 4 := by omega
      have e2 : i / 4 = (i - 4) / 4 + 1 := by omega
      unfold sgAt
      rw [e1, e2, List.getD_cons_succ]
/-- The changes of segments lie in blocks of the call's own, from block B on. -/
def ChO (w : World) (B : Nat) (gs : List SgR) : Prop := ∀ k, k < gs.length → Sl w B (gs.getD k sgZ).A 45 ((gs.getD k sgZ).cs.length * 3) (chAt (gs.getD k sgZ).cs)
theorem ChO.nx {w w' : World} {B : Nat} {gs : List SgR} (h : ChO w B gs) (hb : Nx w w') : ChO w' B gs := fun k hk => (h k hk).nx hb
theorem Sl.rgO {w w' : World} {lo a b : Nat} {A : Option Addr} {t : TypeId} {m : Nat} {f : Nat → Value} (h : Sl w lo A t m f) (hb : Rg a b w w') (hd : b ≤ lo) : Sl w' lo A t m f := fun hm => by
  obtain ⟨g, e, hl, ho⟩ := h hm; exact ⟨g, e, hl, ho.rg hb (.inr (by omega))⟩
theorem ChO.rg {w w' : World} {B a b : Nat} {gs : List SgR} (h : ChO w B gs) (hb : Rg a b w w') (hd : b ≤ B) : ChO w' B gs := fun k hk => (h k hk).rgO hb hd
theorem ChO.snoc {w : World} {B : Nat} {gs : List SgR} {g : SgR} (h : ChO w B gs) (hg : Sl w B g.A 45 (g.cs.length * 3) (chAt g.cs)) : ChO w B (gs ++ [g]) := fun k hk => by
  rw [List.length_append] at hk
  simp only [List.length_cons, List.length_nil] at hk
  by_cases e : k < gs.length
  · rw [getD_pre gs [g] e]; exact h k e
  · obtain rfl : k = gs.length := by omega
    rw [getD_app]; exact hg
theorem ChO.init {w : World} {B : Nat} {gs : List SgR} {g : SgR} (h : ChO w B (gs ++ [g])) : ChO w B gs ∧ Sl w B g.A 45 (g.cs.length * 3) (chAt g.cs) := by
  refine ⟨fun k hk => ?_, ?_⟩
  · have := h k (by rw [List.length_append]; omega)
    rw [getD_pre gs [g] hk] at this
    exact this
  · have := h gs.length (by rw [List.length_append]; simp)
    rw [getD_app] at this
    exact this
/-- A row of segments of the call's own, from block B on. -/
def RowS (w : World) (B : Nat) (v : Value) (gs : List SgR) : Prop := w.ownsRow B 31 4 v gs.length (gVs gs)
theorem RowS.new (w : World) {B : Nat} (hB : B ≤ w.heap.size) : RowS (w.alloc (.cells #[] 31)) B (.slice (some ⟨w.heap.size, 0, none⟩) 0 0) [] :=
  ⟨rfl, .inr ⟨_, 0, #[], rfl, hB, heap_alloc_new w _, by simp, by unfold maxLen; omega, rfl, rfl⟩⟩
theorem RowS.sl {w : World} {B : Nat} {v : Value} {gs : List SgR} (h : RowS w B v gs) : ∃ A c, v = .slice A gs.length c ∧ Sl w B A 31 (gs.length * 4) (sgAt gs) := by
  rcases h.2 with ⟨rfl, h0⟩ | ⟨g, cap, cur, rfl, hb, hg, hnc, _, hcs, htk⟩
  · exact ⟨none, 0, by rw [h0], fun hn => by omega⟩
  · refine ⟨_, cap, rfl, Sl.own ⟨cur, hg, by have := Nat.mul_le_mul_right 4 hnc; omega, fun i hi => ?_⟩ hb⟩
    have h1 : (cur.toList.take (gs.length * 4))[i]? = some (sgAt gs i) := by rw [htk]; exact gVs_get gs i hi
    rw [List.getElem?_take_of_lt hi] at h1
    simpa using h1
theorem RowS.sgo {w : World} {B : Nat} {v : Value} {gs : List SgR} (h : RowS w B v gs) (hc : ChO w B gs) : ∃ A c, v = .slice A gs.length c ∧ SgO w B A gs := by
  obtain ⟨A, c, e, hs⟩ := h.sl
  exact ⟨A, c, e, hs, hc⟩
theorem RowS.nx {w w' : World} {B : Nat} {v : Value} {gs : List SgR} (h : RowS w B v gs) (hb : Nx w w') : RowS w' B v gs := by
  refine World.ownsRow.kept (row := none) h ⟨hb.os, hb.tape, hb.output, hb.size, fun i hi _ => hb.block i hi⟩ ?_
  cases hv : v.ownBlock with
  | none => exact .inl rfl
  | some g => exact .inr (by simp)
theorem RowS.rg {w w' : World} {B lo hi : Nat} {v : Value} {gs : List SgR} (h : RowS w B v gs) (hr : Rg lo hi w w') (hh : hi ≤ B) : RowS w' B v gs := by
  rcases h.2 with ⟨rfl, h0⟩ | ⟨g, cap, cur, rfl, hb, hg, r⟩
  · exact ⟨h.1, .inl ⟨rfl, h0⟩⟩
  · have hlt := (World.ownsRow.lt h g rfl).2
    exact ⟨h.1, .inr ⟨g, cap, cur, rfl, hb, (hr.block g hlt (.inr (by omega))).trans hg, r⟩⟩
theorem RowS.ne {w : World} {B g : Nat} {v : Value} {gs : List SgR} {t : TypeId} {m : Nat} {f : Nat → Value} (h : RowS w B v gs) (hb : Own w g t m f) (ht : t ≠ 31) : some g ≠ v.ownBlock := by
  intro he
  rcases h.2 with ⟨rfl, _⟩ | ⟨g', cap, cur, rfl, _, hg, _⟩
  · simp [Value.ownBlock] at he
  · obtain rfl : g = g' := by simpa [Value.ownBlock] using he
    obtain ⟨cs, hb, _⟩ := hb
    rw [hg] at hb
    injection hb with hb
    injection hb with _ hb
    exact ht hb.symm
/-- What an append of a segment leaves as it is. -/
structure GrewS (B : Nat) (w w' : World) : Prop where
  nx : ∀ a, Nx a w → a.heap.size ≤ B → Nx a w'
  rg : ∀ lo hi a, Rg lo hi a w → a.heap.size ≤ B → Rg lo hi a w'
  own : ∀ g t m f, t ≠ 31 → Own w g t m f → Own w' g t m f
  box : ∀ g t xs, t ≠ 31 → Box w g t xs → Box w' g t xs
  size : w.heap.size ≤ w'.heap.size
  low : Below B w w'
theorem GrewS.sl {B : Nat} {w w' : World} (h : GrewS B w w') {lo : Nat} {A : Option Addr} {t : TypeId} {m : Nat} {f : Nat → Value} (hs : Sl w lo A t m f) (ht : t ≠ 31) : Sl w' lo A t m f := fun hm => by
  obtain ⟨g, e, hl, ho⟩ := hs hm
  exact ⟨g, e, hl, h.own g t m f ht ho⟩
theorem GrewS.cho {B B' : Nat} {w w' : World} (h : GrewS B w w') {gs : List SgR} (hs : ChO w B' gs) : ChO w' B' gs := fun k hk => h.sl (hs k hk) (by decide)
set_option maxHeartbeats 1000000 in
/-- append of one segment at the operation, for the walk. -/
theorem wpList_addS {w : World} {ops : Array Oper} {rest : List Oper} {o : Oper} {a : Act} {Q : Exit → Act → World → Prop}
    (hgd : o.guard = none) (s x : Operand) (ho : o.op = .call { callee := .builtin .append, args := #[s, x], argTypes := #[25, 25] })
    (B gd : Nat) (v : Value) (gs : List SgR) (g : SgR) (hs : a.eval s = v) (hx : a.eval x = .slice (some ⟨gd, 0, none⟩) 1 1) (hown : RowS w B v gs) (hbx : Box w gd 31 #[.int .i64 g.f, .int .i64 g.t, .int .i64 g.m, .slice g.A g.cs.length g.c])
    (hl : gs.length ≤ 1048576) (hB : B ≤ w.heap.size)
    (hK : ∀ A' k' w', RowS w' B (.slice A' (gs.length + 1) k') (gs ++ [g]) → GrewS B w w' → wpList Try.prog ops Q rest (a.put o.dst (.slice A' (gs.length + 1) k')) w') :
    wpList Try.prog ops Q (o :: rest) a w := by
  obtain ⟨i0, hi0, hz0, hz1, hz2⟩ := info_parts info_sg
  refine wpList_append_own w hgd s x 25 ho B 31 i0 _ 4 48 Try.underlying25 hi0 hz0 hz1 hz2 rfl (by omega) v gs.length _ hs hown ⟨gd, 0, none⟩ 1 1 (gCs g) hx rfl (fun j u hj => ?_) (fun u hu => by unfold gCs at hu; simp only [List.mem_cons, List.not_mem_nil, or_false] at hu; rcases hu with rfl | rfl | rfl | rfl <;> rfl) (by unfold maxLen; omega) (by omega) hB ?_
  · rw [addr_add', Nat.zero_add, hbx.cell j]
    rw [← hj]
    unfold gCs
    rcases j with _ | _ | _ | _ | j <;> simp
  · intro v' w' hw' hg' _
    have hr : RowS w' B v' (gs ++ [g]) := by
      unfold RowS
      rw [gVs_snoc, List.length_append]
      exact hw'
    obtain ⟨A', k', rfl, _⟩ := hr.sl
    rw [List.length_append] at hr ⊢
    have hrow : ∀ k, Value.ownBlock v = some k → B ≤ k := fun k hk => (World.ownsRow.lt hown k hk).1
    have hown' : ∀ g t m f, t ≠ 31 → Own w g t m f → Own w' g t m f := fun g t m f ht ho => ho.of_block (hg'.block g ho.lt (hown.ne ho ht))
    refine hK A' k' w' hr ⟨fun b hb hbB => Below.grown hb hg' hb.size (fun k hk => Nat.le_trans hbB (hrow k hk)), fun lo hi b hb hbB => ?_, hown', fun g t xs ht hbg => ?_, hg'.size, ⟨hg'.os, hg'.tape, hg'.output, hg'.size, fun k hk => hg'.block k (by omega) (fun e => by have := hrow k e.symm; omega)⟩⟩
    · refine ⟨hg'.os.trans hb.os, hg'.tape.trans hb.tape, hg'.output.trans hb.output, Nat.le_trans hb.size hg'.size, fun k hk hr => (hg'.block k (Nat.lt_of_lt_of_le hk hb.size) fun e => ?_).trans (hb.block k hk hr)⟩
      have := hrow k e.symm
      omega
    · exact hbg.grown hg' (hown.ne hbg.own ht)
theorem RowS.mk {w : World} {B g cap : Nat} {gs : List SgR} {cur : Array Value} (hB : B ≤ g) (hb : Box w g 31 cur) (h1 : gs.length ≤ cap) (h2 : cap ≤ maxLen) (h3 : cur.size = cap * 4) (h : ∀ i, i < gs.length * 4 → cur[i]? = some (sgAt gs i)) : RowS w B (.slice (some ⟨g, 0, none⟩) gs.length cap) gs := by
  refine ⟨gVs_len gs, .inr ⟨g, cap, cur, rfl, hB, hb, h1, h2, h3, ?_⟩⟩
  refine List.ext_getElem? fun i => ?_
  by_cases hi : i < gs.length * 4
  · rw [List.getElem?_take_of_lt hi, gVs_get gs i hi]
    simpa using h i hi
  · rw [List.getElem?_eq_none (by rw [List.length_take]; omega), List.getElem?_eq_none (by rw [gVs_len]; omega)]
theorem set4_at (cur : Array Value) (a : Nat) (v0 v1 v2 v3 : Value) (h : a + 4 ≤ cur.size) :
    ((((cur.setIfInBounds a v0).setIfInBounds (a + 1) v1).setIfInBounds (a + 2) v2).setIfInBounds (a + 3) v3)[a]? = some v0 ∧ ((((cur.setIfInBounds a v0).setIfInBounds (a + 1) v1).setIfInBounds (a + 2) v2).setIfInBounds (a + 3) v3)[a + 1]? = some v1
    ∧ ((((cur.setIfInBounds a v0).setIfInBounds (a + 1) v1).setIfInBounds (a + 2) v2).setIfInBounds (a + 3) v3)[a + 2]? = some v2 ∧ ((((cur.setIfInBounds a v0).setIfInBounds (a + 1) v1).setIfInBounds (a + 2) v2).setIfInBounds (a + 3) v3)[a + 3]? = some v3 := by
  refine ⟨?_, ?_, ?_, ?_⟩
  · rw [Array.getElem?_setIfInBounds_ne (by omega), Array.getElem?_setIfInBounds_ne (by omega), Array.getElem?_setIfInBounds_ne (by omega), Array.getElem?_setIfInBounds, if_pos rfl, if_pos (by omega)]
  · rw [Array.getElem?_setIfInBounds_ne (by omega), Array.getElem?_setIfInBounds_ne (by omega), Array.getElem?_setIfInBounds, if_pos rfl, if_pos (by rw [Array.size_setIfInBounds]; omega)]
  · rw [Array.getElem?_setIfInBounds_ne (by omega), Array.getElem?_setIfInBounds, if_pos rfl, if_pos (by rw [Array.size_setIfInBounds, Array.size_setIfInBounds]; omega)]
  · rw [Array.getElem?_setIfInBounds, if_pos rfl, if_pos (by rw [Array.size_setIfInBounds, Array.size_setIfInBounds, Array.size_setIfInBounds]; omega)]
/-- The last one is turned. -/
def putG (w : World) (g k : Nat) (x : SgR) : World := (((w.setCell ⟨g, k * 4, none⟩ (.int .i64 x.f)).setCell ⟨g, k * 4 + 1, none⟩ (.int .i64 x.t)).setCell ⟨g, k * 4 + 2, none⟩ (.int .i64 x.m)).setCell ⟨g, k * 4 + 3, none⟩ (.slice x.A x.cs.length x.c)
theorem RowS.put {w : World} {B g cap : Nat} {gs : List SgR} {y : SgR} (h : RowS w B (.slice (some ⟨g, 0, none⟩) (gs.length + 1) cap) (gs ++ [y])) (x : SgR) :
    RowS (putG w g gs.length x) B (.slice (some ⟨g, 0, none⟩) (gs.length + 1) cap) (gs ++ [x]) ∧ GrewS B w (putG w g gs.length x) := by
  have hl1 : ∀ z : SgR, (gs ++ [z]).length = gs.length + 1 := fun z => by simp
  rcases h.2 with ⟨he, _⟩ | ⟨g', cap', cur, he, hb, hg, hnc, hmx, hsz, htk⟩
  · cases he
  · injection he with e1 e2 e3
    injection e1 with e1
    injection e1 with e1
    subst e1 e3
    rw [hl1] at hnc htk
    have hcell : ∀ i, i < (gs.length + 1) * 4 → cur[i]? = some (sgAt (gs ++ [y]) i) := fun i hi => by
      have h1 : (cur.toList.take ((gs.length + 1) * 4))[i]? = some (sgAt (gs ++ [y]) i) := by rw [htk]; exact gVs_get _ i (by rw [hl1]; exact hi)
      rw [List.getElem?_take_of_lt hi] at h1
      simpa using h1
    have hbox : Box w g 31 cur := hg
    have hb4 := (((hbox.set (gs.length * 4) (.int .i64 x.f)).set (gs.length * 4 + 1) (.int .i64 x.t)).set (gs.length * 4 + 2) (.int .i64 x.m)).set (gs.length * 4 + 3) (.slice x.A x.cs.length x.c)
    have hg4 : (gs ++ [x]).getD gs.length sgZ = x := getD_app gs x
    have hlen : gs.length * 4 + 4 ≤ cur.size := by rw [hsz]; have := Nat.mul_le_mul_right 4 hnc; omega
    obtain ⟨t0, t1, t2, t3⟩ := set4_at cur (gs.length * 4) (.int .i64 x.f) (.int .i64 x.t) (.int .i64 x.m) (.slice x.A x.cs.length x.c) hlen
    refine ⟨?_, ?_⟩
    · have := RowS.mk (gs := gs ++ [x]) (cap := cap) hb hb4 (by rw [hl1]; exact hnc) hmx (by simp [hsz]) fun i hi => ?_
      · rw [hl1] at this; exact this
      · rw [hl1] at hi
        by_cases h3 : i = gs.length * 4 + 3
        · subst h3; rw [sgAt3, hg4]; exact t3
        · by_cases h2 : i = gs.length * 4 + 2
          · subst h2; rw [sgAt2, hg4]; exact t2
          · by_cases h1 : i = gs.length * 4 + 1
            · subst h1; rw [sgAt1, hg4]; exact t1
            · by_cases h0 : i = gs.length * 4
              · subst h0; rw [sgAt0, hg4]; exact t0
              · rw [sgAt_app gs [x] i (by omega), ← sgAt_app gs [y] i (by omega), ← hcell i (by omega)]
                rw [Array.getElem?_setIfInBounds_ne (by omega), Array.getElem?_setIfInBounds_ne (by omega), Array.getElem?_setIfInBounds_ne (by omega), Array.getElem?_setIfInBounds_ne (by omega)]
    · have hblk : ∀ k, k ≠ g → (putG w g gs.length x).heap[k]? = w.heap[k]? := fun k hk => by
        unfold putG
        rw [Below.heap_setCell _ _ _ _ hk, Below.heap_setCell _ _ _ _ hk, Below.heap_setCell _ _ _ _ hk, Below.heap_setCell _ _ _ _ hk]
      have hsize : w.heap.size ≤ (putG w g gs.length x).heap.size := by unfold putG; simp [World.setCell]
      have hlow : Below B w (putG w g gs.length x) := ⟨rfl, rfl, rfl, hsize, fun k hk => hblk k (by omega)⟩
      refine ⟨fun a ha haB => ⟨ha.os, ha.tape, ha.output, Nat.le_trans ha.size hsize, fun k hk => (hblk k (by omega)).trans (ha.block k hk)⟩,
        fun lo hi a ha haB => ⟨ha.os, ha.tape, ha.output, Nat.le_trans ha.size hsize, fun k hk hr => (hblk k (by omega)).trans (ha.block k hk hr)⟩,
        fun g2 t m f ht ho => ho.of_block (hblk g2 fun e => ?_), fun g2 t xs ht hbx => (hblk g2 fun e => ?_).trans hbx, hsize, hlow⟩
      · subst e
        obtain ⟨cs, ho, _⟩ := ho
        rw [hg] at ho
        injection ho with ho
        injection ho with _ ho
        exact ht ho.symm
      · subst e
        unfold Box at hbx
        rw [hg] at hbx
        injection hbx with hbx
        injection hbx with _ hbx
        exact ht hbx.symm
/-- What a store into the last one needs to know. -/
theorem RowS.last {w : World} {B g cap : Nat} {gs : List SgR} {y : SgR} (h : RowS w B (.slice (some ⟨g, 0, none⟩) (gs.length + 1) cap) (gs ++ [y])) :
    w.cell? ⟨g, gs.length * 4, none⟩ = some (.int .i64 y.f) ∧ w.cell? ⟨g, gs.length * 4 + 1, none⟩ = some (.int .i64 y.t) ∧ w.cell? ⟨g, gs.length * 4 + 2, none⟩ = some (.int .i64 y.m) ∧ w.cell? ⟨g, gs.length * 4 + 3, none⟩ = some (.slice y.A y.cs.length y.c) ∧ (∀ i, w.frozen? ⟨g, i, none⟩ = false) ∧ B ≤ g ∧ g < w.heap.size := by
  obtain ⟨A, c, e, hs⟩ := h.sl
  injection e with e1 _ _
  subst e1
  obtain ⟨g', e2, hl, ho⟩ := hs (by simp)
  injection e2 with e2
  injection e2 with e2
  subst e2
  have hl1 : (gs ++ [y]).length = gs.length + 1 := by simp
  rw [hl1] at ho
  have hg4 : (gs ++ [y]).getD gs.length sgZ = y := getD_app gs y
  have c0 := ho.cell (i := gs.length * 4) (by omega)
  have c1 := ho.cell (i := gs.length * 4 + 1) (by omega)
  have c2 := ho.cell (i := gs.length * 4 + 2) (by omega)
  have c3 := ho.cell (i := gs.length * 4 + 3) (by omega)
  rw [sgAt0, hg4] at c0
  rw [sgAt1, hg4] at c1
  rw [sgAt2, hg4] at c2
  rw [sgAt3, hg4] at c3
  exact ⟨c0, c1, c2, c3, ho.frozen, hl, ho.lt⟩
/-- A content that is read: an older one, or one of the call's own. -/
def CI (w : World) (g B : Nat) (A : Option Addr) (x : List Int) : Prop := Ins w g A x ∨ SlI w B A x
section
variable {w w' : World} {g B : Nat} {A : Option Addr} {x : List Int}
theorem CI.nx (h : CI w g B A x) (hb : Nx w w') (hg : g ≤ w.heap.size) : CI w' g B A x := by
  rcases h with h | h
  · exact .inl (h.below hb hg)
  · exact .inr (Sl.nx h hb)
theorem CI.rg (h : CI w g B A x) (hb : Rg g (g + 1) w w') (hg : g ≤ w.heap.size) (hB : g + 1 ≤ B) : CI w' g B A x := by
  rcases h with h | h
  · exact .inl (h.below (hb.below hg) (Nat.le_refl _))
  · exact .inr (Sl.rgO h hb hB)
theorem CI.grew (h : CI w g B A x) (hb : GrewS B w w') (hB : g ≤ B) : CI w' g B A x := by
  rcases h with h | h
  · exact .inl (h.below hb.low hB)
  · exact .inr (hb.sl h (by decide))
theorem CI.ins (h : CI w g B A x) (hg : g ≤ w.heap.size) : Ins w w.heap.size A x := by
  rcases h with h | h
  · exact h.more hg
  · exact Sl.row h
end
end Go.Proofs.Ytckekkhfjcaclaa
