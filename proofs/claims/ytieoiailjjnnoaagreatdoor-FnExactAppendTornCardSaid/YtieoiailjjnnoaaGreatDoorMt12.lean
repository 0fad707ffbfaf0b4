/-
  Texts of the proof, in their order.
  Conditions: those of each.
-/
import Derived.Test.YtieoiailjjnnoaaGreatDoorMt11
namespace Go.Proofs.YtieoiailjjnnoaaGreatDoor
set_option linter.unusedVariables false
set_option maxRecDepth 100000
set_option maxHeartbeats 16000000
open Go.RowKit
def gCs (g : SgR) : List Value := [ii g.f, ii g.t, ii g.m, .slice g.A g.cs.length g.c]
def gVs (gs : List SgR) : List Value := gs.flatMap gCs
theorem gVs_len : ∀ gs : List SgR, (gVs gs).length = gs.length * 4
 | [] => rfl
 | g :: gs => by
   show (gCs g ++ gVs gs).length = _
   rw [List.length_append, gVs_len gs, List.length_cons]
   unfold gCs
   simp only [List.length_cons, List.length_nil]; omega
theorem gVs_snoc (gs : List SgR) (g : SgR) : gVs (gs ++ [g]) = gVs gs ++ gCs g := by
 unfold gVs; rw [List.flatMap_append]; simp
theorem gVs_get : ∀ (gs : List SgR) (i : Nat), i < gs.length * 4 → (gVs gs)[i]? = some (sgAt gs i)
 | [], i, h => by simp at h
 | g :: gs, i, h => by
   show (gCs g ++ gVs gs)[i]? = _
   by_cases hi : i < 4
   · rw [List.getElem?_append_left (by simpa [gCs] using hi)]
     match i, hi with
     | 0, _ => rfl
     | 1, _ => rfl
     | 2, _ => rfl
     | 3, _ => rfl
   · rw [List.getElem?_append_right (by simpa [gCs] using hi)]
     show (gVs gs)[i - 4]? = _
     rw [gVs_get gs (i - 4) (by simp at h; omega)]
     have e1 : (i - 4) % 4 = i % 4 := by omega
     have e2 : i / 4 = (i - 4) / 4 + 1 := by omega
     unfold sgAt
     rw [e1, e2, List.getD_cons_succ]
def ChO (w : World) (B : Nat) (gs : List SgR) : Prop := ∀ k, k < gs.length → Sl w B (gs.getD k sgZ).A 192 ((gs.getD k sgZ).cs.length * 3) (chAt (gs.getD k sgZ).cs)
theorem ChO.nx {w w' : World} {B : Nat} {gs : List SgR} (h : ChO w B gs) (hb : Nx w w') : ChO w' B gs := fun k hk => (h k hk).nx hb
theorem Sl.rgO {w w' : World} {lo a b : Nat} {A : Option Addr} {t : TypeId} {m : Nat} {f : Nat → Value} (h : Sl w lo A t m f) (hb : Rg a b w w') (hd : b ≤ lo) : Sl w' lo A t m f := fun hm => by
 obtain ⟨g, e, hl, ho⟩ := h hm; exact ⟨g, e, hl, ho.rg hb (.inr (by omega))⟩
theorem ChO.rg {w w' : World} {B a b : Nat} {gs : List SgR} (h : ChO w B gs) (hb : Rg a b w w') (hd : b ≤ B) : ChO w' B gs := fun k hk => (h k hk).rgO hb hd
theorem ChO.snoc {w : World} {B : Nat} {gs : List SgR} {g : SgR} (h : ChO w B gs) (hg : Sl w B g.A 192 (g.cs.length * 3) (chAt g.cs)) : ChO w B (gs ++ [g]) := fun k hk => by
 rw [List.length_append] at hk
 simp only [List.length_cons, List.length_nil] at hk
 by_cases e : k < gs.length
 · rw [getD_pre gs [g] e]; exact h k e
 · obtain rfl : k = gs.length := by omega
   rw [getD_app]; exact hg
def RowS (w : World) (B : Nat) (v : Value) (gs : List SgR) : Prop := w.ownsRow B 122 4 v gs.length (gVs gs)
theorem RowS.new (w : World) {B : Nat} (hB : B ≤ w.heap.size) : RowS (w.alloc (.cells #[] 122)) B (.slice (some ⟨w.heap.size, 0, none⟩) 0 0) [] :=
 ⟨rfl, .inr ⟨_, 0, #[], rfl, hB, heap_alloc_new w _, by simp, by unfold maxLen; omega, rfl, rfl⟩⟩
theorem RowS.sl {w : World} {B : Nat} {v : Value} {gs : List SgR} (h : RowS w B v gs) : ∃ A c, v = .slice A gs.length c ∧ Sl w B A 122 (gs.length * 4) (sgAt gs) := by
 rcases h.2 with ⟨rfl, h0⟩ | ⟨g, cap, cur, rfl, hb, hg, hnc, _, hcs, htk⟩
 · exact ⟨none, 0, by rw [h0], fun hn => by omega⟩
 · refine ⟨_, cap, rfl, Sl.own ⟨cur, hg, by have := Nat.mul_le_mul_right 4 hnc; omega, fun i hi => ?_⟩ hb⟩
   have h1 : (cur.toList.take (gs.length * 4))[i]? = some (sgAt gs i) := by rw [htk]; exact gVs_get gs i hi
   rw [List.getElem?_take_of_lt hi] at h1
   simpa using h1
theorem RowS.nx {w w' : World} {B : Nat} {v : Value} {gs : List SgR} (h : RowS w B v gs) (hb : Nx w w') : RowS w' B v gs := by
 refine World.ownsRow.kept (row := none) h ⟨hb.os, hb.tape, hb.output, hb.size, fun i hi _ => hb.block i hi⟩ ?_
 cases hv : v.ownBlock with
 | none => exact .inl rfl
 | some g => exact .inr (by simp)
theorem RowS.rg {w w' : World} {B lo hi : Nat} {v : Value} {gs : List SgR} (h : RowS w B v gs) (hr : Rg lo hi w w') (hh : hi ≤ B) : RowS w' B v gs := by
 rcases h.2 with ⟨rfl, h0⟩ | ⟨g, cap, cur, rfl, hb, hg, r⟩
 · exact ⟨h.1, .inl ⟨rfl, h0⟩⟩
 · have hlt := (World.ownsRow.lt h g rfl).2
   exact ⟨h.1, .inr ⟨g, cap, cur, rfl, hb, (hr.block g hlt (.inr (by omega))).trans hg, r⟩⟩
theorem RowS.ne {w : World} {B g : Nat} {v : Value} {gs : List SgR} {t : TypeId} {m : Nat} {f : Nat → Value} (h : RowS w B v gs) (hb : Own w g t m f) (ht : t ≠ 122) : some g ≠ v.ownBlock := by
 intro he
 rcases h.2 with ⟨rfl, _⟩ | ⟨g', cap, cur, rfl, _, hg, _⟩
 · simp [Value.ownBlock] at he
 · obtain rfl : g = g' := by simpa [Value.ownBlock] using he
   obtain ⟨cs, hb, _⟩ := hb
   rw [hg] at hb
   injection hb with hb
   injection hb with _ hb
   exact ht hb.symm
structure GrewS (B : Nat) (w w' : World) : Prop where
 nx : ∀ a, Nx a w → a.heap.size ≤ B → Nx a w'
 rg : ∀ lo hi a, Rg lo hi a w → a.heap.size ≤ B → Rg lo hi a w'
 own : ∀ g t m f, t ≠ 122 → Own w g t m f → Own w' g t m f
 box : ∀ g t xs, t ≠ 122 → Box w g t xs → Box w' g t xs
 size : w.heap.size ≤ w'.heap.size
 low : Below B w w'
theorem GrewS.sl {B : Nat} {w w' : World} (h : GrewS B w w') {lo : Nat} {A : Option Addr} {t : TypeId} {m : Nat} {f : Nat → Value} (hs : Sl w lo A t m f) (ht : t ≠ 122) : Sl w' lo A t m f := fun hm => by
 obtain ⟨g, e, hl, ho⟩ := hs hm
 exact ⟨g, e, hl, h.own g t m f ht ho⟩
theorem GrewS.cho {B B' : Nat} {w w' : World} (h : GrewS B w w') {gs : List SgR} (hs : ChO w B' gs) : ChO w' B' gs := fun k hk => h.sl (hs k hk) (by decide)
theorem wpList_addS {w : World} {ops : Array Oper} {rest : List Oper} {o : Oper} {a : Act} {Q : Exit → Act → World → Prop}
 (hgd : o.guard = none) (s x : Operand) (ho : o.op = .call { callee := .builtin .append, args := #[s, x], argTypes := #[47, 47] })
 (B gd : Nat) (v : Value) (gs : List SgR) (g : SgR) (hs : a.eval s = v) (hx : a.eval x = .slice (some ⟨gd, 0, none⟩) 1 1) (hown : RowS w B v gs) (hbx : Box w gd 122 #[ii g.f, ii g.t, ii g.m, .slice g.A g.cs.length g.c])
 (hl : gs.length ≤ 1048576) (hB : B ≤ w.heap.size)
 (hK : ∀ A' k' w', RowS w' B (.slice A' (gs.length + 1) k') (gs ++ [g]) → GrewS B w w' → wpList Tryz.prog ops Q rest (a.put o.dst (.slice A' (gs.length + 1) k')) w') :
 wpList Tryz.prog ops Q (o :: rest) a w := by
 obtain ⟨i0, hi0, hz0, hz1, hz2⟩ := info_parts info_sg
 refine wpList_append_own w hgd s x 47 ho B 122 i0 _ 4 48 Tryz.underlying47 hi0 hz0 hz1 hz2 rfl (by omega) v gs.length _ hs hown ⟨gd, 0, none⟩ 1 1 (gCs g) hx rfl (fun j u hj => ?_) (fun u hu => by unfold gCs at hu; simp only [List.mem_cons, List.not_mem_nil, or_false] at hu; rcases hu with rfl | rfl | rfl | rfl <;> rfl) (by unfold maxLen; omega) (by omega) hB ?_
 · rw [addr_add', Nat.zero_add, hbx.cell j]
   rw [← hj]
   unfold gCs
   rcases j with _ | _ | _ | _ | j <;> simp
 · intro v' w' hw' hg' _
   have hr : RowS w' B v' (gs ++ [g]) := by
    unfold RowS
    rw [gVs_snoc, List.length_append]
    exact hw'
   obtain ⟨A', k', rfl, _⟩ := hr.sl
   rw [List.length_append] at hr ⊢
   have hrow : ∀ k, Value.ownBlock v = some k → B ≤ k := fun k hk => (World.ownsRow.lt hown k hk).1
   have hown' : ∀ g t m f, t ≠ 122 → Own w g t m f → Own w' g t m f := fun g t m f ht ho => ho.of_block (hg'.block g ho.lt (hown.ne ho ht))
   refine hK A' k' w' hr ⟨fun b hb hbB => Below.grown hb hg' hb.size (fun k hk => ntr hbB (hrow k hk)), fun lo hi b hb hbB => ?_, hown', fun g t xs ht hbg => ?_, hg'.size, ⟨hg'.os, hg'.tape, hg'.output, hg'.size, fun k hk => hg'.block k (by omega) (fun e => by have := hrow k e.symm; omega)⟩⟩
   · refine ⟨hg'.os.trans hb.os, hg'.tape.trans hb.tape, hg'.output.trans hb.output, ntr hb.size hg'.size, fun k hk hr => (hg'.block k (Nat.lt_of_lt_of_le hk hb.size) fun e => ?_).trans (hb.block k hk hr)⟩
     have := hrow k e.symm
     omega
   · exact hbg.grown hg' (hown.ne hbg.own ht)
theorem RowS.mk {w : World} {B g cap : Nat} {gs : List SgR} {cur : Array Value} (hB : B ≤ g) (hb : Box w g 122 cur) (h1 : gs.length ≤ cap) (h2 : cap ≤ maxLen) (h3 : cur.size = cap * 4) (h : ∀ i, i < gs.length * 4 → cur[i]? = some (sgAt gs i)) : RowS w B (.slice (some ⟨g, 0, none⟩) gs.length cap) gs := by
 refine ⟨gVs_len gs, .inr ⟨g, cap, cur, rfl, hB, hb, h1, h2, h3, ?_⟩⟩
 refine List.ext_getElem? fun i => ?_
 by_cases hi : i < gs.length * 4
 · rw [List.getElem?_take_of_lt hi, gVs_get gs i hi]
   simpa using h i hi
 · rw [List.getElem?_eq_none (by rw [List.length_take]; omega), List.getElem?_eq_none (by rw [gVs_len]; omega)]
theorem set4_at (cur : Array Value) (a : Nat) (v0 v1 v2 v3 : Value) (h : a + 4 ≤ cur.size) :
 ((((cur.setIfInBounds a v0).setIfInBounds (a + 1) v1).setIfInBounds (a + 2) v2).setIfInBounds (a + 3) v3)[a]? = some v0 ∧ ((((cur.setIfInBounds a v0).setIfInBounds (a + 1) v1).setIfInBounds (a + 2) v2).setIfInBounds (a + 3) v3)[a + 1]? = some v1
 ∧ ((((cur.setIfInBounds a v0).setIfInBounds (a + 1) v1).setIfInBounds (a + 2) v2).setIfInBounds (a + 3) v3)[a + 2]? = some v2 ∧ ((((cur.setIfInBounds a v0).setIfInBounds (a + 1) v1).setIfInBounds (a + 2) v2).setIfInBounds (a + 3) v3)[a + 3]? = some v3 := by
 refine ⟨?_, ?_, ?_, ?_⟩
 · rw [Array.getElem?_setIfInBounds_ne (by omega), Array.getElem?_setIfInBounds_ne (by omega), Array.getElem?_setIfInBounds_ne (by omega), Array.getElem?_setIfInBounds, if_pos rfl, if_pos (by omega)]
 · rw [Array.getElem?_setIfInBounds_ne (by omega), Array.getElem?_setIfInBounds_ne (by omega), Array.getElem?_setIfInBounds, if_pos rfl, if_pos (by rw [Array.size_setIfInBounds]; omega)]
 · rw [Array.getElem?_setIfInBounds_ne (by omega), Array.getElem?_setIfInBounds, if_pos rfl, if_pos (by rw [Array.size_setIfInBounds, Array.size_setIfInBounds]; omega)]
 · rw [Array.getElem?_setIfInBounds, if_pos rfl, if_pos (by rw [Array.size_setIfInBounds, Array.size_setIfInBounds, Array.size_setIfInBounds]; omega)]
def putG (w : World) (g k : Nat) (x : SgR) : World := (((w.setCell ⟨g, k * 4, none⟩ (ii x.f)).setCell ⟨g, k * 4 + 1, none⟩ (ii x.t)).setCell ⟨g, k * 4 + 2, none⟩ (ii x.m)).setCell ⟨g, k * 4 + 3, none⟩ (.slice x.A x.cs.length x.c)
theorem RowS.put {w : World} {B g cap : Nat} {gs : List SgR} {y : SgR} (h : RowS w B (.slice (some ⟨g, 0, none⟩) (gs.length + 1) cap) (gs ++ [y])) (x : SgR) :
 RowS (putG w g gs.length x) B (.slice (some ⟨g, 0, none⟩) (gs.length + 1) cap) (gs ++ [x]) ∧ GrewS B w (putG w g gs.length x) := by
 have hl1 : ∀ z : SgR, (gs ++ [z]).length = gs.length + 1 := fun z => by simp
 rcases h.2 with ⟨he, _⟩ | ⟨g', cap', cur, he, hb, hg, hnc, hmx, hsz, htk⟩
 · cases he
 · injection he with e1 e2 e3
   injection e1 with e1
   injection e1 with e1
   subst e1 e3
   rw [hl1] at hnc htk
   have hcell : ∀ i, i < (gs.length + 1) * 4 → cur[i]? = some (sgAt (gs ++ [y]) i) := fun i hi => by
    have h1 : (cur.toList.take ((gs.length + 1) * 4))[i]? = some (sgAt (gs ++ [y]) i) := by rw [htk]; exact gVs_get _ i (by rw [hl1]; exact hi)
    rw [List.getElem?_take_of_lt hi] at h1
    simpa using h1
   have hbox : Box w g 122 cur := hg
   have hb4 := (((hbox.set (gs.length * 4) (ii x.f)).set (gs.length * 4 + 1) (ii x.t)).set (gs.length * 4 + 2) (ii x.m)).set (gs.length * 4 + 3) (.slice x.A x.cs.length x.c)
   have hg4 : (gs ++ [x]).getD gs.length sgZ = x := getD_app gs x
   have hlen : gs.length * 4 + 4 ≤ cur.size := by rw [hsz]; have := Nat.mul_le_mul_right 4 hnc; omega
   obtain ⟨t0, t1, t2, t3⟩ := set4_at cur (gs.length * 4) (ii x.f) (ii x.t) (ii x.m) (.slice x.A x.cs.length x.c) hlen
   refine ⟨?_, ?_⟩
   · have := RowS.mk (gs := gs ++ [x]) (cap := cap) hb hb4 (by rw [hl1]; exact hnc) hmx (by simp [hsz]) fun i hi => ?_
     · rw [hl1] at this; exact this
     · rw [hl1] at hi
       by_cases h3 : i = gs.length * 4 + 3
       · subst h3; rw [sgAt3, hg4]; exact t3
       · by_cases h2 : i = gs.length * 4 + 2
         · subst h2; rw [sgAt2, hg4]; exact t2
         · by_cases h1 : i = gs.length * 4 + 1
           · subst h1; rw [sgAt1, hg4]; exact t1
           · by_cases h0 : i = gs.length * 4
             · subst h0; rw [sgAt0, hg4]; exact t0
             · rw [sgAt_app gs [x] i (by omega), ← sgAt_app gs [y] i (by omega), ← hcell i (by omega)]
               rw [Array.getElem?_setIfInBounds_ne (by omega), Array.getElem?_setIfInBounds_ne (by omega), Array.getElem?_setIfInBounds_ne (by omega), Array.getElem?_setIfInBounds_ne (by omega)]
   · have hblk : ∀ k, k ≠ g → (putG w g gs.length x).heap[k]? = w.heap[k]? := fun k hk => by
      unfold putG
      rw [Below.heap_setCell _ _ _ _ hk, Below.heap_setCell _ _ _ _ hk, Below.heap_setCell _ _ _ _ hk, Below.heap_setCell _ _ _ _ hk]
     have hsize : w.heap.size ≤ (putG w g gs.length x).heap.size := by unfold putG; simp [World.setCell]
     have hlow : Below B w (putG w g gs.length x) := ⟨rfl, rfl, rfl, hsize, fun k hk => hblk k (by omega)⟩
     refine ⟨fun a ha haB => ⟨ha.os, ha.tape, ha.output, ntr ha.size hsize, fun k hk => (hblk k (by omega)).trans (ha.block k hk)⟩,
      fun lo hi a ha haB => ⟨ha.os, ha.tape, ha.output, ntr ha.size hsize, fun k hk hr => (hblk k (by omega)).trans (ha.block k hk hr)⟩,
      fun g2 t m f ht ho => ho.of_block (hblk g2 fun e => ?_), fun g2 t xs ht hbx => (hblk g2 fun e => ?_).trans hbx, hsize, hlow⟩
     · subst e
       obtain ⟨cs, ho, _⟩ := ho
       rw [hg] at ho
       injection ho with ho
       injection ho with _ ho
       exact ht ho.symm
     · subst e
       unfold Box at hbx
       rw [hg] at hbx
       injection hbx with hbx
       injection hbx with _ hbx
       exact ht hbx.symm
def CI (w : World) (g B : Nat) (A : Option Addr) (x : List Int) : Prop := Ins w g A x ∨ SlI w B A x
section
variable {w w' : World} {g B : Nat} {A : Option Addr} {x : List Int}
theorem CI.nx (h : CI w g B A x) (hb : Nx w w') (hg : g ≤ w.heap.size) : CI w' g B A x := by
 rcases h with h | h
 · exact .inl (h.below hb hg)
 · exact .inr (Sl.nx h hb)
theorem CI.rg (h : CI w g B A x) (hb : Rg g (g + 1) w w') (hg : g ≤ w.heap.size) (hB : g + 1 ≤ B) : CI w' g B A x := by
 rcases h with h | h
 · exact .inl (h.below (hb.below hg) nle)
 · exact .inr (Sl.rgO h hb hB)
theorem CI.grew (h : CI w g B A x) (hb : GrewS B w w') (hB : g ≤ B) : CI w' g B A x := by
 rcases h with h | h
 · exact .inl (h.below hb.low hB)
 · exact .inr (hb.sl h (by decide))
end
def RetSG (w : World) (ss : List BA) (ws : List (Int × BA)) (xs : List Int) (a0 : Addr) (e : Ending) (w' : World) : Prop :=
 Nx w w' ∧ (((∃ k, k < xs.length ∧ ldG ss ws (xs.getD k 0) = none) ∧ e = .returned (.tuple #[nsl, .iface 290 (.pointer (some a0))]))
  ∨ ∃ A c gs, e = .returned (.tuple #[.slice A gs.length c, .nilIface]) ∧ GsTo ss ws xs xs.length gs ∧ gs.length ≤ c ∧ SgO w' w.heap.size A gs ∧ Dj gs)
theorem RowS.sgoc {w : World} {B : Nat} {v : Value} {gs : List SgR} (h : RowS w B v gs) (hc : ChO w B gs) : ∃ A c, v = .slice A gs.length c ∧ gs.length ≤ c ∧ SgO w B A gs := by
 have hsl := h.sl
 rcases h.2 with ⟨rfl, h0⟩ | ⟨g, cap, cur, rfl, hb, hg, hnc, _, hcs, htk⟩
 · exact ⟨none, 0, by rw [h0], by omega, ⟨fun hn => by omega, hc⟩⟩
 · obtain ⟨A, c, e, hs⟩ := hsl
   injection e with e1 e2 e3
   subst e1 e3
   exact ⟨_, _, rfl, hnc, hs, hc⟩
theorem RowS.nil (w : World) (B : Nat) : RowS w B (nsl) [] := ⟨rfl, .inl ⟨rfl, rfl⟩⟩
theorem ChO.nil (w : World) (B : Nat) : ChO w B [] := fun k hk => absurd hk (by simp)
theorem tb_at {xs : List Int} (h : tbB xs = true) {k : Nat} (hk : k < xs.length) : ∃ a : Nat, xs.getD k 0 = (a : Int) ∧ 10 ≤ a ∧ a < 64 := by
 have h1 : xs.getD k 0 ∈ xs := by rw [gdE, List.getElem?_eq_getElem hk]; exact List.getElem_mem hk
 have := tbB_in h h1
 exact ⟨(xs.getD k 0).toNat, by omega, by omega, by omega⟩
theorem segsIn_c (A A2 A3 : Option Addr) (n c n2 c2 c3 B : Nat) (ss : List BA) (ws : List (Int × BA)) (xs : List Int) (w : World) (a0 a1 : Addr) (h : Strs w B A n ss) (h2 : Wrs w B A2 n2 ws) (h3 : Ins w B A3 xs) (hB : B ≤ w.heap.size) (hn : n ≤ 1048576) (hn2 : n2 ≤ 1048576)
 (hD : diskB ss ws = true) (ht : tbB xs = true) (hE : Er w a0 a1) :
 Calls Tryz.prog 139 #[.agg #[.slice A n c, .slice A2 n2 c2], .slice A3 xs.length c3] w (RetSG w ss ws xs a0) := by
 have b0 := Box.new w 35 #[.slice A n c, .slice A2 n2 c2]
 have hx0 := (Nx.refl w).alloc (.cells #[.slice A n c, .slice A2 n2 c2] 35)
 have hn64 : 64 ≤ n := by have := (diskB_len64 hD).1; have := h.1; omega
 have HDs := qh (fun a => readP_size hD a)
 have Hta := qh (fun k (hk : k < xs.length) => tb_at ht hk)
 have hm20 := (tbB_yes ht).1
 have HRet := qh (fun (e : Ending) (w' : World) (h : RetSG w ss ws xs a0 e w') => h)
 have HSn := qh (fun k gs q (h1 : GsTo ss ws xs k gs) (h2 : k < xs.length) (h3 : ldG ss ws (xs.getD k 0) = some q) (A c) => h1.snoc h2 h3 A c)
 obtain ⟨m, Hm⟩ : ∃ m, Hid (xs.length = m) := ⟨_, rfl⟩
 have h3' : ∀ k, k < m → _ := fun k hk w' B' hw hB' => ((h3.below (w' := w') (B' := B') hw hB').at_ (k := k) (by rw [Hm.out]; exact hk))
 rw [Hm.out] at Hta hm20 HSn ⊢
 clear hD ht h3
 go_enter Tryz.func139, Tryz.ntmps139
 go_wp2_with fail
 generalize w.alloc (.cells #[.slice A n c, .slice A2 n2 c2] 35) = W at *
 go_loopw [6, 13] (fun v i wr => ∃ (k : Nat) (gs : List SgR), k ≤ m ∧ i = ii k ∧ (∃ u, u = v ∧ RowS wr w.heap.size u gs) ∧ ChO wr w.heap.size gs ∧ Dj gs ∧ GsTo ss ws xs k gs ∧ Nx w wr ∧ Box wr w.heap.size 35 #[.slice A n c, .slice A2 n2 c2]) (fun _ i _ => m - (intOf i).toNat)
 case atStart => exact ⟨0, [], by omega, rfl, ⟨_, rfl, RowS.nil _ _⟩, ChO.nil _ _, Dj.nil, GsTo.nil _ _ _, hx0, b0⟩
 case round =>
  obtain ⟨k, gs, hk, rfl, ⟨u, rfl, hrow⟩, hcho, hdj, hgs, hnx, hb⟩ := hrel
  clear b0 hx0
  have HDj := qh hdj
  have HGs := qh hgs
  have Hlen := qh hgs.len
  clear hdj hgs
  by_cases hlt : k < m
  case neg =>
   obtain rfl : k = m := by omega
   obtain ⟨A', c', rfl, hc', hS⟩ := hrow.sgoc hcho
   have HF : Hid (RetSG w ss ws xs a0 (.returned (.tuple #[.slice A' gs.length c', .nilIface])) wr) := qh ⟨hnx, .inr ⟨A', c', gs, rfl, by rw [Hm.out]; exact HGs.out, hc', hS, HDj.out⟩⟩
   clear hrow hcho hS hc'
   go_wp2
   go_ret2
   exact HF.out
  obtain ⟨a, ha, ha1, ha2⟩ := Hta.out k hlt
  obtain ⟨bb, off, rfl, hbb, p0⟩ := h3' k hlt _ _ hnx hB
  rw [ha] at p0
  have HG : Hid (ldG ss ws (xs.getD k 0) = rdG (readP ss ws a)) := qh (by rw [ha]; rfl)
  clear ha
  have hc0 := hb.c0
  have hc1 := hb.c1
  go_wp2_with fail
  refine (newest_c A A2 n c n2 c2 B a ss ws _ (h.below hnx hB) (h2.below hnx hB) (ntr hB hnx.size) (by omega) hn hn2).mono ?_
  rintro e w1 ⟨rfl, hk1⟩
  have hrow1 := hrow.nx hk1
  have hcho1 := hcho.nx hk1
  have hnx1 := hnx.trans hk1
  have hb1 := hb.nx hk1
  clear hrow hcho hnx hb hc0 hc1 p0
  go_wp2_with fail
  refine (segOfText_c (readP ss ws a) _ a0 a1 (by have := HDs.out a; omega) (hE.nx hnx1)).mono ?_
  rintro e w2 ⟨hk2, hno, hyes⟩
  have hrow2 := hrow1.nx hk2
  have hcho2 := hcho1.nx hk2
  have hnx2 := hnx1.trans hk2
  have hb2 := hb1.nx hk2
  have HC1 := qh hcho1
  clear hrow1 hcho1 hb1
  cases hr : rdG (readP ss ws a) with
  | none =>
    obtain rfl := hno hr
    have HF : Hid (ldG ss ws (xs.getD k 0) = none) := qh (by rw [HG.out, hr])
    clear hno hyes hr
    go_wp2
    go_ret2
    exact ⟨by first | exact hnx2 | exact hnx2.alloc _, .inl ⟨⟨k, by rw [Hm.out]; exact hlt, HF.out⟩, rfl⟩⟩
  | some q =>
    obtain ⟨Ag, cg, rfl, hSl⟩ := hyes q hr
    have HF : Hid (ldG ss ws (xs.getD k 0) = some q) := qh (by rw [HG.out, hr])
    clear hno hyes hr
    obtain ⟨q0, q1, q2, cs⟩ := q
    simp only at hSl
    have hd1 := HDj.out.snoc (g := ⟨q0, q1, q2, Ag, cg, cs⟩) HC1.out hSl
    have HD1 := qh hd1
    have HG1 := qh (HSn.out k gs _ HGs.out hlt HF.out Ag cg)
    have hSl' := hSl.low (lo' := w.heap.size) hnx1.size
    clear hd1 hSl
    have hz3 := ((Nx.refl w2).alloc (.cells #[ii q0, ii q1, ii q2, .slice Ag cs.length cg] 122)).alloc (.cells #[ii q0, ii q1, ii q2, .slice Ag cs.length cg] 122)
    have hrow3 := hrow2.nx hz3
    have hcho3 := hcho2.nx hz3
    have hnx3 := hnx2.trans hz3
    have hb3 := hb2.nx hz3
    have hSl3 := hSl'.nx hz3
    have bN := Box.new (w2.alloc (.cells #[ii q0, ii q1, ii q2, .slice Ag cs.length cg] 122)) 122 #[ii q0, ii q1, ii q2, .slice Ag cs.length cg]
    have HR3 := qh hrow3
    have HB3 := qh bN
    have hl9 : gs.length ≤ 1048576 := by have := Hlen.out; omega
    have hsz3 : w.heap.size ≤ ((w2.alloc (.cells #[ii q0, ii q1, ii q2, .slice Ag cs.length cg] 122)).alloc (.cells #[ii q0, ii q1, ii q2, .slice Ag cs.length cg] 122)).heap.size := hnx3.size
    clear hrow2 hcho2 hb2 hSl' hrow3 bN
    simp only [World.size_alloc] at HB3
    go_wp2_with (at_builtin; refine wpList_addS rfl _ _ rfl w.heap.size (w2.heap.size + 1) _ gs ⟨q0, q1, q2, Ag, cg, cs⟩ rfl rfl HR3.out HB3.out hl9 hsz3 ?_)
    intro A9 k9 w9 hrow9 hgr
    have hnx9 := hgr.nx w hnx3 nle
    have hcho9 := (hgr.cho hcho3).snoc (g := ⟨q0, q1, q2, Ag, cg, cs⟩) (hgr.sl hSl3 (by decide))
    have hb9 := hgr.box _ _ _ (by decide) hb3
    clear hcho3 hSl3 hb3 hgr HR3 HB3
    go_wp2
    go_roundw
    case rel => exact ⟨k + 1, gs ++ [⟨q0, q1, q2, Ag, cg, cs⟩], by omega, by go_num, ⟨_, rfl, hrow9⟩, hcho9, HD1.out, HG1.out, hnx9, hb9⟩
    case measure => simp [intOf]; omega
def RetIG (w : World) (ss : List BA) (ws : List (Int × BA)) (a0 : Addr) (e : Ending) (w' : World) : Prop :=
 Nx w w' ∧ (((∃ j, j < 8 ∧ ldI ss ws j = none) ∧ e = .returned (.tuple #[nsl, .iface 290 (.pointer (some a0))]))
  ∨ ∃ A c im, e = .returned (.tuple #[.slice A im.length c, .nilIface]) ∧ ImTo ss ws 8 im ∧ SlI w' w.heap.size A im)
theorem oneN_no {ns : List Nat} (h : ns.length ≠ 1) : oneN (some ns) = none := by
 unfold oneN
 split
 · rename_i e; injection e with e; subst e; simp at h
 · rfl
theorem image_c (A A2 : Option Addr) (n c n2 c2 B : Nat) (ss : List BA) (ws : List (Int × BA)) (w : World) (a0 a1 : Addr) (h : Strs w B A n ss) (h2 : Wrs w B A2 n2 ws) (hB : B ≤ w.heap.size) (hn : n ≤ 1048576) (hn2 : n2 ≤ 1048576)
 (hD : diskB ss ws = true) (hE : Er w a0 a1) :
 Calls Tryz.prog 140 #[.agg #[.slice A n c, .slice A2 n2 c2]] w (RetIG w ss ws a0) := by
 have b0 := Box.new w 35 #[.slice A n c, .slice A2 n2 c2]
 have hx0 := (Nx.refl w).alloc (.cells #[.slice A n c, .slice A2 n2 c2] 35)
 have hn64 : 64 ≤ n := by have := (diskB_len64 hD).1; have := h.1; omega
 have HDs := qh (fun a => readP_size hD a)
 clear hD
 go_enter Tryz.func140, Tryz.ntmps140
 go_wp2_with fail
 generalize w.alloc (.cells #[.slice A n c, .slice A2 n2 c2] 35) = W at *
 go_loopw [4, 8] (fun v i wr => ∃ (k : Nat) (im : List Int), k ≤ 8 ∧ i = ii k ∧ (∃ u, u = v ∧ RowI wr w.heap.size u im) ∧ ImTo ss ws k im ∧ Nx w wr ∧ Box wr w.heap.size 35 #[.slice A n c, .slice A2 n2 c2]) (fun _ i _ => 8 - (intOf i).toNat)
 case atStart => exact ⟨0, [], by omega, rfl, ⟨_, rfl, RowI.nil _ _⟩, ImTo.nil _ _, hx0, b0⟩
 case round =>
  obtain ⟨k, im, hk, rfl, ⟨u, rfl, hrow⟩, him, hnx, hb⟩ := hrel
  clear b0 hx0
  have HIm := qh him
  have Hlen := qh him.len
  clear him
  by_cases hlt : k < 8
  case neg =>
   obtain rfl : k = 8 := by omega
   obtain ⟨A', c', rfl, hc', hS⟩ := hrow.slc
   have HF : Hid (RetIG w ss ws a0 (.returned (.tuple #[.slice A' im.length c', .nilIface])) wr) := qh ⟨hnx, .inr ⟨A', c', im, rfl, HIm.out, hS⟩⟩
   clear hrow hS hc'
   go_wp2
   go_ret2
   exact HF.out
  have HG : Hid (ldI ss ws k = oneN (rdN (readP ss ws (2 + k)))) := qh rfl
  have hc0 := hb.c0
  have hc1 := hb.c1
  go_wp2_with fail
  rw [show ((2 : Int) + (k : Int)) = ((2 + k : Nat) : Int) by omega]
  refine (newest_c A A2 n c n2 c2 B (2 + k) ss ws _ (h.below hnx hB) (h2.below hnx hB) (ntr hB hnx.size) (by omega) hn hn2).mono ?_
  rintro e w1 ⟨rfl, hk1⟩
  have hrow1 := hrow.nx hk1
  have hnx1 := hnx.trans hk1
  have hb1 := hb.nx hk1
  clear hrow hnx hb hc0 hc1
  go_wp2_with fail
  refine (sealedNumbers_c (readP ss ws (2 + k)) _ a0 a1 (by have := HDs.out (2 + k); omega) (hE.nx hnx1)).mono ?_
  rintro e w2 ⟨hk2, hno, hyes⟩
  have hrow2 := hrow1.nx hk2
  have hnx2 := hnx1.trans hk2
  have hb2 := hb1.nx hk2
  clear hrow1 hb1
  cases hr : rdN (readP ss ws (2 + k)) with
  | none =>
    obtain rfl := hno hr
    have HF : Hid (ldI ss ws k = none) := qh (by rw [HG.out, hr]; rfl)
    clear hno hyes hr
    go_wp2
    go_ret2
    exact ⟨hnx2, .inl ⟨⟨k, hlt, HF.out⟩, rfl⟩⟩
  | some ns =>
    obtain ⟨Ag, cg, rfl, hR, hcg⟩ := hyes ns hr
    by_cases h1 : ns.length = 1
    case neg =>
     have HF : Hid (ldI ss ws k = none) := qh (by rw [HG.out, hr]; exact oneN_no h1)
     have hne : ((ns.length : Int) != 1) = true := by rw [bne_iff_ne]; omega
     obtain ⟨e0, _⟩ := hE.nx hnx2
     clear hno hyes hr hR
     go_wp2
     go_quiet (fail)
     go_wp2
     go_ret2
     exact ⟨hnx2.drewN _, .inl ⟨⟨k, hlt, HF.out⟩, rfl⟩⟩
    obtain ⟨x, rfl⟩ : ∃ x, ns = [x] := by
     match ns, h1 with
     | [x], _ => exact ⟨x, rfl⟩
    have HF : Hid (ldI ss ws k = some (x : Int)) := qh (by rw [HG.out, hr]; rfl)
    obtain ⟨bb, off, rfl, hbb, hcell⟩ := hR (by simp)
    have p0 : w2.cell? ⟨bb, off, none⟩ = some (ii (x : Int)) := hcell 0 (by simp)
    have HI1 := qh (HIm.out.snoc HF.out)
    clear hno hyes hr hR hcell h1
    have hz3 := (Nx.refl w2).alloc (.cells #[ii (x : Int)] 3)
    have HR3 := qh (hrow2.nx hz3)
    have HB3 := qh (Box.new w2 3 #[ii (x : Int)])
    have hnx3 := hnx2.trans hz3
    have hb3 := hb2.nx hz3
    have hl9 : im.length ≤ 1048576 := by have := Hlen.out; omega
    have hsz3 := hnx3.size
    clear hrow2 hb2
    simp only [List.length_cons, List.length_nil] at hcg ⊢
    go_wp2_with (at_builtin; refine wpList_addI rfl _ _ rfl w.heap.size w2.heap.size _ im (x : Int) rfl rfl HR3.out HB3.out hl9 hsz3 ?_)
    intro A9 k9 w9 hrow9 hgr
    have hnx9 := hgr.nx w hnx3 nle
    have hb9 := hgr.box _ _ _ (by decide) hb3
    clear hb3 hgr HR3 HB3
    go_wp2
    go_roundw
    case rel => exact ⟨k + 1, im ++ [(x : Int)], by omega, by go_num, ⟨_, rfl, hrow9⟩, HI1.out, hnx9, hb9⟩
    case measure => simp [intOf]; omega
theorem Sr.rowfar {w : World} {lo hi m g : Nat} {A : Option Addr} {t : TypeId} {f : Nat → Value} (h : Sr w lo hi A t m f) (hg : g < lo) (ds : Array Value) : Sr (w.setRow g ds) lo hi A t m f := fun hm => by
 obtain ⟨k, e, hl, hh, ho⟩ := h hm; exact ⟨k, e, hl, hh, ho.rowfar (by omega) ds⟩
theorem VlP.rowfar {w : World} {lo mid hi g : Nat} {V : Vl} (h : VlP w lo mid hi V) (hg : g < lo) (ds : Array Value) : VlP (w.setRow g ds) lo mid hi V :=
 have h' : g < mid := Nat.lt_of_lt_of_le hg h.le
 ⟨h.tab.rowfar hg ds, h.mks.rowfar hg ds, h.row.rowfar h' ds, fun k hk => (h.chs k hk).rowfar h' ds, h.img.rowfar h' ds, h.dj, h.cap, h.cap3, h.le, h.le2⟩
theorem newU_super {ss : List BA} {ws : List (Int × BA)} {g b p q s : Int} {xs : List Int} {ms : List Mrk} (h : newU (rdU (readP ss ws 0)) (rdU (readP ss ws 1)) = some ((g, b, p, q, xs, ms), s)) : superB g b p q xs ms = true := by
 rcases newU_from h with e | e
 · exact rdU_super e
 · exact rdU_super e
theorem ld_small {ss : List BA} {ws : List (Int × BA)} {g b p q : Int} {xs : List Int} {ms : List Mrk} {gs : List SgR} {im : List Int} (hD : diskB ss ws = true) (hs : superB g b p q xs ms = true) (hg : GsTo ss ws xs xs.length gs) (hi : ImTo ss ws 8 im) (Ax : Option Addr) (cx : Nat) (Am : Option Addr) (cm : Nat) (Ag : Option Addr) (cg : Nat) (Ai : Option Addr) (ci : Nat) :
 VlN ⟨g, b, p, q, Ax, cx, xs, Am, cm, ms, Ag, cg, gs, Ai, ci, im⟩ 1048576 ∧ AllM ms := by
 obtain ⟨_, _, _, _, h5, h6⟩ := superB_yes hs
 have h1 := (tbB_yes h5).1
 have h2 := (msB_yes h6).1
 have h3 := hg.len
 have h4 := hi.len
 refine ⟨⟨show xs.length ≤ _ by omega, show ms.length ≤ _ by omega, show gs.length ≤ _ by omega, fun k hk => ?_, show im.length ≤ _ by omega⟩, msB_all h6⟩
 have hk' : k < gs.length := hk
 have hv := v_at (gs := gs) (hs := xs.map (ldS ss ws)) (by rw [hg.v, List.take_length, List.map_map]; rfl) k
 have hkx : k < xs.length := by omega
 have e : (xs.map (ldS ss ws)).getD k sgZ = ldS ss ws xs[k] := by
  rw [gdE, List.getElem?_map, List.getElem?_eq_getElem hkx]; rfl
 rw [e] at hv
 have hv2 : (gs.getD k sgZ).cs = (ldS ss ws xs[k]).cs := congrArg (fun q : Sg4 => q.2.2.2) hv
 show (gs.getD k sgZ).cs.length ≤ 1048576
 rw [hv2]
 unfold ldS
 cases hq : ldG ss ws xs[k] with
 | none => exact Nat.zero_le _
 | some q =>
   have h7 := rdG_short hq
   have h8 := readP_size hD xs[k].toNat
   show q.2.2.2.length ≤ 1048576
   omega
theorem diskVault_c (A A2 : Option Addr) (n c n2 c2 B : Nat) (ss : List BA) (ws : List (Int × BA)) (w : World) (a0 a1 : Addr) (h : Strs w B A n ss) (h2 : Wrs w B A2 n2 ws) (hB : B ≤ w.heap.size) (hn : n ≤ 1048576) (hn2 : n2 ≤ 1048576) (hD : diskB ss ws = true) (hE : Er w a0 a1) (hM : Mx w) (hEt : Et w) :
 Calls Tryz.prog 65 #[.agg #[.slice A n c, .slice A2 n2 c2]] w (RetLd w (ldV ss ws)) := by
 have r0 : Box ((w.alloc (.cells #[.slice A n c, .slice A2 n2 c2] 35)).alloc (.cells #[ii 0, ii 0, ii 0, ii 0, nsl, nsl, nsl, nsl] 49)) (w.heap.size + 1) 49 #[ii 0, ii 0, ii 0, ii 0, nsl, nsl, nsl, nsl] := by have := Box.new (w.alloc (.cells #[.slice A n c, .slice A2 n2 c2] 35)) 49 #[ii 0, ii 0, ii 0, ii 0, nsl, nsl, nsl, nsl]; rwa [World.size_alloc] at this
 have e0 : Box ((w.alloc (.cells #[.slice A n c, .slice A2 n2 c2] 35)).alloc (.cells #[ii 0, ii 0, ii 0, ii 0, nsl, nsl, nsl, nsl] 49)) w.heap.size 35 #[.slice A n c, .slice A2 n2 c2] := (Box.new w _ _).alloc _
 have hx0 := ((Nx.refl w).alloc (.cells #[.slice A n c, .slice A2 n2 c2] 35)).alloc (.cells #[ii 0, ii 0, ii 0, ii 0, nsl, nsl, nsl, nsl] 49)
 go_enter Tryz.func65, Tryz.ntmps65
 go_wp2_with fail
 generalize (w.alloc (.cells #[.slice A n c, .slice A2 n2 c2] 35)).alloc (.cells #[ii 0, ii 0, ii 0, ii 0, nsl, nsl, nsl, nsl] 49) = W at *
 obtain ⟨gR, Hg⟩ : ∃ g, Hid (w.heap.size + 1 = g) := ⟨_, rfl⟩
 have hgR : w.heap.size ≤ gR := by have := Hg.out; omega
 have hgR1 : w.heap.size < gR := by have := Hg.out; omega
 rw [Hg.out] at r0 ⊢
 have hltR0 := r0.lt
 have h1n : 1 < n := by have := (diskB_len64 hD).1; have := h.1; omega
 have HD := qh hD
 clear hD
 have z0 := e0.c0
 have z1 := e0.c1
 go_wp2_with fail
 refine (newestSuper_c A A2 n c n2 c2 B ss ws _ a0 a1 (h.below hx0 hB) (h2.below hx0 hB) (ntr hB hx0.size) h1n hn hn2 (by have := readP_size HD.out 0; omega) (by have := readP_size HD.out 1; omega) (hE.nx hx0) (hM.nx hx0) (hEt.nx hx0)).mono ?_
 rintro e w2 ⟨hnx2, h1, h2'⟩
 have r2 := r0.nx hnx2
 have e2 := e0.nx hnx2
 have hx2 := hx0.trans hnx2
 have hltR : gR < W.heap.size := hltR0
 have hlt2 := r2.lt
 clear r0 e0 z0 z1 hltR0
 cases hu : newU (rdU (readP ss ws 0)) (rdU (readP ss ws 1)) with
 | none =>
   have HA := qh (ldV_none hu)
   have he := h1 hu
   unfold slE at he
   subst he
   clear h1 h2' hu
   go_wp2_with fail
   have r3 := r2.alloc (.cells #[ii 0, ii 0, ii 0, ii 0, nsl, nsl] 26)
   have hx3 := hx2.alloc (.cells #[ii 0, ii 0, ii 0, ii 0, nsl, nsl] 26)
   change Calls _ _ _ (w2.alloc (.cells #[ii 0, ii 0, ii 0, ii 0, nsl, nsl] 26)) _
   generalize w2.alloc (.cells #[ii 0, ii 0, ii 0, ii 0, nsl, nsl] 26) = w3 at *
   refine (slotCode_c 1 19 _ (hEt.nx hx3)).mono ?_
   rintro e w4 ⟨rfl, hnx4⟩
   have r4 := r3.nx hnx4
   have hx4 := hx3.trans hnx4
   have rq := r4.row #[ii 0, ii 0, ii 0, ii 0, nsl, nsl, nsl, nsl]
   have hnf := hx4.setRow hgR #[ii 0, ii 0, ii 0, ii 0, nsl, nsl, nsl, nsl]
   go_wp2_with (refine wpList_store_row rfl _ _ _ rfl gR #[ii 0, ii 0, ii 0, ii 0, nsl, nsl, nsl, nsl] rfl rfl 49 #[ii 0, ii 0, ii 0, ii 0, nsl, nsl, nsl, nsl] r4 (by kernel_rfl) rfl (by simp [Value.oneCell']) ?_)
   generalize w4.setRow gR #[ii 0, ii 0, ii 0, ii 0, nsl, nsl, nsl, nsl] = Wf at *
   obtain ⟨g0, g1, g2, g3, g4, g5, g6, g7⟩ := rq.e8
   exact bodyPost_ret (v := .tuple #[.agg #[ii 0, ii 0, ii 0, ii 0, nsl, nsl, nsl, nsl], ii 19]) (by simp [results, Tryz.results65, go_sem, g0, g1, g2, g3, g4, g5, g6, g7]) rfl ⟨zVl, w.heap.size, by rw [HA.out]; rfl, by rw [HA.out]; exact VlS.refl _, VlP.zero _ hnf.size, hnf⟩
 | some us =>
   obtain ⟨⟨g, b, p, q, xs, ms⟩, sl⟩ := us
   obtain ⟨Ax, cx, Am, cm, he, hcc, hS1, hM1⟩ := h2' _ _ hu
   replace he : e = .returned (.tuple #[.agg #[ii g, ii b, ii p, ii q, .slice Ax xs.length cx, .slice Am ms.length cm], ii sl, .nilIface]) := he
   replace hS1 : SlI w2 W.heap.size Ax xs := hS1
   replace hM1 : SlM w2 W.heap.size Am ms := hM1
   replace hcc : xs.length ≤ cx := hcc
   have HCC := qh hcc
   have HU := qh hu
   have hsup := newU_super hu
   have HSup := qh hsup
   have htb := (superB_yes hsup).2.2.2.2.1
   subst he
   clear h1 h2' hu hcc hsup
   have hz3 := (Nx.refl w2).alloc (.cells #[ii g, ii b, ii p, ii q, .slice Ax xs.length cx, .slice Am ms.length cm] 26)
   have s3 := Box.new w2 26 #[ii g, ii b, ii p, ii q, .slice Ax xs.length cx, .slice Am ms.length cm]
   have r3 := r2.nx hz3
   have e3 := e2.nx hz3
   have hx3 := hx2.trans hz3
   have hS3 := (hS1.sr.nx hz3).up hz3.size
   have hM3 := (hM1.sr.nx hz3).up hz3.size
   have hT3 := hS1.row.below hz3 nle
   have hzz : w2.heap.size < (w2.alloc (.cells #[ii g, ii b, ii p, ii q, .slice Ax xs.length cx, .slice Am ms.length cm] 26)).heap.size := by simp
   have hlW : W.heap.size ≤ (w2.alloc (.cells #[ii g, ii b, ii p, ii q, .slice Ax xs.length cx, .slice Am ms.length cm] 26)).heap.size := ntr hnx2.size hz3.size
   obtain ⟨y0, y1, y2, y3, y4, y5⟩ := s3.d6
   have z0 := e3.c0
   have z1 := e3.c1
   clear r2 e2 hx2 hS1 hM1
   go_wp2_with fail
   generalize w2.alloc (.cells #[ii g, ii b, ii p, ii q, .slice Ax xs.length cx, .slice Am ms.length cm] 26) = w3 at *
   obtain ⟨gS, HgS⟩ : ∃ g, Hid (w2.heap.size = g) := ⟨_, rfl⟩
   rw [HgS.out] at s3 hzz hT3 y0 y1 y2 y3 y4 y5 ⊢
   refine (segsIn_c A A2 Ax n c n2 c2 cx gS ss ws xs _ a0 a1 (h.below hx3 hB |>.more (Nat.le_of_lt (Nat.lt_of_le_of_lt hB (by have := hnx2.size; have := hx0.size; have := HgS.out; omega)))) (h2.below hx3 hB |>.more (by have := hnx2.size; have := hx0.size; have := HgS.out; omega)) hT3 (Nat.le_of_lt hzz) hn hn2 HD.out htb (hE.nx hx3)).mono ?_
   rintro e w4 ⟨hk4, hret⟩
   have r4 := r3.nx hk4
   have e4 := e3.nx hk4
   have s4 := s3.nx hk4
   have hx4 := hx3.trans hk4
   have hS4 := hS3.nx hk4
   have hM4 := hM3.nx hk4
   clear r3 e3 s3 hS3 hM3 z0 z1 y0 y1 y2 y3 y4 y5
   rcases hret with ⟨⟨k, hk, hno⟩, rfl⟩ | ⟨Ag, cg, gs, rfl, hgs, hcg, hSg, hdj⟩
   · have HA := qh (ldV_seg HU.out hk hno)
     clear hno hk
     have rq := r4.row #[ii 0, ii 0, ii 0, ii 0, nsl, nsl, nsl, nsl]
     have hnf := hx4.setRow hgR #[ii 0, ii 0, ii 0, ii 0, nsl, nsl, nsl, nsl]
     go_wp2_with (refine wpList_store_row rfl _ _ _ rfl gR #[ii 0, ii 0, ii 0, ii 0, nsl, nsl, nsl, nsl] rfl rfl 49 #[ii 0, ii 0, ii 0, ii 0, nsl, nsl, nsl, nsl] r4 (by kernel_rfl) rfl (by simp [Value.oneCell']) ?_)
     generalize w4.setRow gR #[ii 0, ii 0, ii 0, ii 0, nsl, nsl, nsl, nsl] = Wf at *
     obtain ⟨g0, g1, g2, g3, g4, g5, g6, g7⟩ := rq.e8
     exact bodyPost_ret (v := .tuple #[.agg #[ii 0, ii 0, ii 0, ii 0, nsl, nsl, nsl, nsl], ii 10]) (by simp [results, Tryz.results65, go_sem, g0, g1, g2, g3, g4, g5, g6, g7]) rfl ⟨zVl, w.heap.size, by rw [HA.out]; rfl, by rw [HA.out]; exact VlS.refl _, VlP.zero _ hnf.size, hnf⟩
   have HGs := qh hgs
   have HDj := qh hdj
   have HCG := qh hcg
   clear hgs hdj hcg
   have z0 := e4.c0
   have z1 := e4.c1
   go_wp2_with fail
   refine (image_c A A2 n c n2 c2 B ss ws _ a0 a1 (h.below hx4 hB) (h2.below hx4 hB) (ntr hB hx4.size) hn hn2 HD.out (hE.nx hx4)).mono ?_
   rintro e w5 ⟨hk5, hret⟩
   have r5 := r4.nx hk5
   have s5 := s4.nx hk5
   have hx5 := hx4.trans hk5
   have hS5 := hS4.nx hk5
   have hM5 := hM4.nx hk5
   have hSg5 := hSg.nx hk5
   have hl4 : w3.heap.size ≤ w4.heap.size := hk4.size
   clear r4 e4 s4 hS4 hM4 z0 z1 hSg
   rcases hret with ⟨⟨k, hk, hno⟩, rfl⟩ | ⟨Ai, ci, im, rfl, him, hSi⟩
   · have HA := qh (ldV_img HU.out hk hno)
     clear hno hk
     have rq := r5.row #[ii 0, ii 0, ii 0, ii 0, nsl, nsl, nsl, nsl]
     have hnf := hx5.setRow hgR #[ii 0, ii 0, ii 0, ii 0, nsl, nsl, nsl, nsl]
     go_wp2_with (refine wpList_store_row rfl _ _ _ rfl gR #[ii 0, ii 0, ii 0, ii 0, nsl, nsl, nsl, nsl] rfl rfl 49 #[ii 0, ii 0, ii 0, ii 0, nsl, nsl, nsl, nsl] r5 (by kernel_rfl) rfl (by simp [Value.oneCell']) ?_)
     generalize w5.setRow gR #[ii 0, ii 0, ii 0, ii 0, nsl, nsl, nsl, nsl] = Wf at *
     obtain ⟨g0, g1, g2, g3, g4, g5, g6, g7⟩ := rq.e8
     exact bodyPost_ret (v := .tuple #[.agg #[ii 0, ii 0, ii 0, ii 0, nsl, nsl, nsl, nsl], ii 10]) (by simp [results, Tryz.results65, go_sem, g0, g1, g2, g3, g4, g5, g6, g7]) rfl ⟨zVl, w.heap.size, by rw [HA.out]; rfl, by rw [HA.out]; exact VlS.refl _, VlP.zero _ hnf.size, hnf⟩
   have HIm := qh him
   clear him
   have hz6 := (Nx.refl w5).alloc (.cells #[ii g, ii b, ii p, ii q, .slice Ax xs.length cx, .slice Am ms.length cm, .slice Ag gs.length cg, .slice Ai im.length ci] 49)
   have v6 := Box.new w5 49 #[ii g, ii b, ii p, ii q, .slice Ax xs.length cx, .slice Am ms.length cm, .slice Ag gs.length cg, .slice Ai im.length ci]
   have r6 := r5.nx hz6
   have hx6 := hx5.trans hz6
   have hP6 : VlP (w5.alloc (.cells #[ii g, ii b, ii p, ii q, .slice Ax xs.length cx, .slice Am ms.length cm, .slice Ag gs.length cg, .slice Ai im.length ci] 49)) W.heap.size w3.heap.size (w5.alloc (.cells #[ii g, ii b, ii p, ii q, .slice Ax xs.length cx, .slice Am ms.length cm, .slice Ag gs.length cg, .slice Ai im.length ci] 49)).heap.size ⟨g, b, p, q, Ax, cx, xs, Am, cm, ms, Ag, cg, gs, Ai, ci, im⟩ :=
    ⟨hS5.nx hz6, hM5.nx hz6, (hSg5.row.sr.nx hz6).up hz6.size, fun k hk => ((hSg5.chs k hk).sr.nx hz6).up hz6.size, ((hSi.low hl4).sr.nx hz6).up hz6.size, HDj.out, HCC.out, HCG.out, hlW, by have := hk4.size; have := hk5.size; have := hz6.size; omega⟩
   obtain ⟨y0, y1, y2, y3, y4, y5⟩ := s5.d6
   obtain ⟨x0, x1, x2, x3, x4, x5, x6, x7⟩ := v6.e8
   clear r5 hx5 hS5 hM5 hSg5 hSi
   go_wp2_with fail
   generalize w5.alloc (.cells #[ii g, ii b, ii p, ii q, .slice Ax xs.length cx, .slice Am ms.length cm, .slice Ag gs.length cg, .slice Ai im.length ci] 49) = w6 at *
   obtain ⟨gV, HgV⟩ : ∃ g, Hid (w5.heap.size = g) := ⟨_, rfl⟩
   rw [HgV.out] at v6 x0 x1 x2 x3 x4 x5 x6 x7 ⊢
   clear y0 y1 y2 y3 y4 y5 x0 x1 x2 x3 x4 x5 x6 x7 s5
   obtain ⟨hNs, hAm⟩ := ld_small HD.out HSup.out HGs.out HIm.out Ax cx Am cm Ag cg Ai ci
   have HW := qh (ldW_s (g := g) (b := b) (p := p) (t := q) (ms := ms) HGs.out HIm.out Ax cx Am cm Ag cg Ai ci)
   have HOk := qh (ldOk_of (u := (g, b, p, q, xs, ms)) HGs.out HIm.out)
   refine (vaultRight_c ⟨g, b, p, q, Ax, cx, xs, Am, cm, ms, Ag, cg, gs, Ai, ci, im⟩ w6.heap.size w6 (hP6.own.vlt) nle hNs HCC.out HCG.out hAm).mono ?_
   rintro e w7 ⟨rfl, hk7⟩
   rw [← HW.out.ok]
   have r7 := r6.nx hk7
   have hx7 := hx6.trans hk7
   have hP7 := (hP6.nx hk7).up hk7.size
   have v7 := v6.nx hk7
   clear r6 hx6 hP6 v6 hNs hAm
   obtain ⟨x0, x1, x2, x3, x4, x5, x6, x7⟩ := v7.e8
   cases hv : (ldW ss ws (g, b, p, q, xs, ms)).ok with
   | false =>
     have HA := qh (ldV_wrong HU.out hv)
     clear hv x0 x1 x2 x3 x4 x5 x6 x7
     have rq := r7.row #[ii 0, ii 0, ii 0, ii 0, nsl, nsl, nsl, nsl]
     have hnf := hx7.setRow hgR #[ii 0, ii 0, ii 0, ii 0, nsl, nsl, nsl, nsl]
     go_wp2_with (refine wpList_store_row rfl _ _ _ rfl gR #[ii 0, ii 0, ii 0, ii 0, nsl, nsl, nsl, nsl] rfl rfl 49 #[ii 0, ii 0, ii 0, ii 0, nsl, nsl, nsl, nsl] r7 (by kernel_rfl) rfl (by simp [Value.oneCell']) ?_)
     generalize w7.setRow gR #[ii 0, ii 0, ii 0, ii 0, nsl, nsl, nsl, nsl] = Wf at *
     obtain ⟨g0, g1, g2, g3, g4, g5, g6, g7⟩ := rq.e8
     exact bodyPost_ret (v := .tuple #[.agg #[ii 0, ii 0, ii 0, ii 0, nsl, nsl, nsl, nsl], ii 10]) (by simp [results, Tryz.results65, go_sem, g0, g1, g2, g3, g4, g5, g6, g7]) rfl ⟨zVl, w.heap.size, by rw [HA.out]; rfl, by rw [HA.out]; exact VlS.refl _, VlP.zero _ hnf.size, hnf⟩
   | true =>
     have HA := qh (ldV_yes HU.out HOk.out hv)
     clear hv
     have rq := r7.row #[ii g, ii b, ii p, ii q, .slice Ax xs.length cx, .slice Am ms.length cm, .slice Ag gs.length cg, .slice Ai im.length ci]
     have hnf := hx7.setRow hgR #[ii g, ii b, ii p, ii q, .slice Ax xs.length cx, .slice Am ms.length cm, .slice Ag gs.length cg, .slice Ai im.length ci]
     have hvf := hP7.rowfar hltR #[ii g, ii b, ii p, ii q, .slice Ax xs.length cx, .slice Am ms.length cm, .slice Ag gs.length cg, .slice Ai im.length ci]
     have hzf := size_setRow w7 gR #[ii g, ii b, ii p, ii q, .slice Ax xs.length cx, .slice Am ms.length cm, .slice Ag gs.length cg, .slice Ai im.length ci]
     go_wp2_with (refine wpList_store_row rfl _ _ _ rfl gR #[ii g, ii b, ii p, ii q, .slice Ax xs.length cx, .slice Am ms.length cm, .slice Ag gs.length cg, .slice Ai im.length ci] rfl rfl 49 #[ii 0, ii 0, ii 0, ii 0, nsl, nsl, nsl, nsl] r7 (by kernel_rfl) rfl (by simp [Value.oneCell']) ?_)
     generalize w7.setRow gR #[ii g, ii b, ii p, ii q, .slice Ax xs.length cx, .slice Am ms.length cm, .slice Ag gs.length cg, .slice Ai im.length ci] = Wf at *
     obtain ⟨g0, g1, g2, g3, g4, g5, g6, g7⟩ := rq.e8
     exact bodyPost_ret (v := .tuple #[.agg #[ii g, ii b, ii p, ii q, .slice Ax xs.length cx, .slice Am ms.length cm, .slice Ag gs.length cg, .slice Ai im.length ci], ii 0]) (by simp [results, Tryz.results65, go_sem, g0, g1, g2, g3, g4, g5, g6, g7]) rfl ⟨⟨g, b, p, q, Ax, cx, xs, Am, cm, ms, Ag, cg, gs, Ai, ci, im⟩, w3.heap.size, by rw [HA.out]; rfl, by rw [HA.out]; exact HW.out, (hvf.low hx0.size).up (by omega), hnf⟩
theorem owns_new03 (w : World) {B : Nat} (hB : B ≤ w.heap.size) : (w.alloc (.cells #[] 192)).ownsRow B 192 3 (.slice (some ⟨w.heap.size, 0, none⟩) 0 0) 0 [] :=
 ⟨rfl, .inr ⟨_, 0, #[], rfl, hB, heap_alloc_new w _, by omega, by unfold maxLen; omega, rfl, rfl⟩⟩
theorem l02Read_c (t : BA) (w : World) (ht : t.size ≤ 65536) : Calls Tryz.prog 197 #[.string t] w (RetST w (rdG t) (.bool false) (.bool true)) := by
 obtain ⟨i0, hi0, hz0, hz1, hz2⟩ := info_parts info_chg
 have b0 := Box.new w 122 #[ii 0, ii 0, ii 0, nsl]
 have hx0 := (Nx.refl w).alloc (.cells #[ii 0, ii 0, ii 0, nsl] 122)
 go_enter Tryz.func197, Tryz.ntmps197
 go_wp2_with fail
 generalize w.alloc (.cells #[ii 0, ii 0, ii 0, nsl] 122) = W at *
 refine (l02Open_c t _ (by omega)).mono ?_
 rintro e w0 ⟨x, rfl, hxs, hxb, hnx0⟩
 go_wp2_with fail
 refine (l02Numbers_c x _ (by omega)).mono ?_
 rintro e w1 ⟨A, n, c, rfl, hr, hnx1⟩
 have b1 := (b0.nx hnx0).nx hnx1
 have hxw := (hx0.trans hnx0).trans hnx1
 clear b0 hx0 hnx0 hnx1
 cases ho : opensB t with
 | false =>
   have HF := qh (rdG_none (rdN_no ho))
   clear ho hxb hr
   obtain ⟨c0, c1, c2, c3⟩ := b1.d4
   have f0 := b1.frozen 0
   have f1 := b1.frozen 1
   have f2 := b1.frozen 2
   have f3 := b1.frozen 3
   go_wp2
   have q := (put4_box b1 (ii 0) (ii 0) (ii 0) (nsl))
   have hnf := (put4_nx hxw (Nat.le_refl w.heap.size) (ii 0) (ii 0) (ii 0) (nsl))
   change bodyPost _ _ _ _ _ (put4 w1 w.heap.size (ii 0) (ii 0) (ii 0) (nsl))
   change Box (put4 w1 w.heap.size (ii 0) (ii 0) (ii 0) (nsl)) _ _ _ at q
   generalize put4 w1 w.heap.size (ii 0) (ii 0) (ii 0) (nsl) = Wf at *
   obtain ⟨g0, g1, g2, g3⟩ := q.d4
   exact bodyPost_ret (v := .tuple #[.agg #[ii 0, ii 0, ii 0, nsl], .bool false]) (by simp [results, Tryz.results197, go_sem, g0, g1, g2, g3]) rfl (RetST.no HF.out hnf)
 | true =>
 obtain rfl := hxb ho
 have HR := qh (rdN_yes ho)
 clear ho hxb
 cases hn : numsO (bodyOf t).data.toList with
 | none =>
   have HF := qh (rdG_none (HR.out.trans hn))
   clear hr hn
   simp only [Option.isSome_none]
   obtain ⟨c0, c1, c2, c3⟩ := b1.d4
   have f0 := b1.frozen 0
   have f1 := b1.frozen 1
   have f2 := b1.frozen 2
   have f3 := b1.frozen 3
   go_wp2
   have q := (put4_box b1 (ii 0) (ii 0) (ii 0) (nsl))
   have hnf := (put4_nx hxw (Nat.le_refl w.heap.size) (ii 0) (ii 0) (ii 0) (nsl))
   change bodyPost _ _ _ _ _ (put4 w1 w.heap.size (ii 0) (ii 0) (ii 0) (nsl))
   change Box (put4 w1 w.heap.size (ii 0) (ii 0) (ii 0) (nsl)) _ _ _ at q
   generalize put4 w1 w.heap.size (ii 0) (ii 0) (ii 0) (nsl) = Wf at *
   obtain ⟨g0, g1, g2, g3⟩ := q.d4
   exact bodyPost_ret (v := .tuple #[.agg #[ii 0, ii 0, ii 0, nsl], .bool false]) (by simp [results, Tryz.results197, go_sem, g0, g1, g2, g3]) rfl (RetST.no HF.out hnf)
 | some ns =>
   obtain ⟨rfl, hrow, _⟩ := hr ns hn
   have HN := qh (HR.out.trans hn)
   clear hr hn
   simp only [Option.isSome_some]
   have HNL := qh (rdN_len ht HN.out)
   by_cases hl3 : 3 ≤ ns.length
   case neg =>
    have HF := qh (rdG_len HN.out (okLen_no (fun h => hl3 h.1)))
    have hd3 : decide ((ns.length : Int) < 3) = true := by simp; omega
    obtain ⟨c0, c1, c2, c3⟩ := b1.d4
    have f0 := b1.frozen 0
    have f1 := b1.frozen 1
    have f2 := b1.frozen 2
    have f3 := b1.frozen 3
    go_wp2
    have q := (put4_box b1 (ii 0) (ii 0) (ii 0) (nsl))
    have hnf := (put4_nx hxw (Nat.le_refl w.heap.size) (ii 0) (ii 0) (ii 0) (nsl))
    change bodyPost _ _ _ _ _ (put4 w1 w.heap.size (ii 0) (ii 0) (ii 0) (nsl))
    change Box (put4 w1 w.heap.size (ii 0) (ii 0) (ii 0) (nsl)) _ _ _ at q
    generalize put4 w1 w.heap.size (ii 0) (ii 0) (ii 0) (nsl) = Wf at *
    obtain ⟨g0, g1, g2, g3⟩ := q.d4
    exact bodyPost_ret (v := .tuple #[.agg #[ii 0, ii 0, ii 0, nsl], .bool false]) (by simp [results, Tryz.results197, go_sem, g0, g1, g2, g3]) rfl (RetST.no HF.out hnf)
   have hd3 : decide ((ns.length : Int) < 3) = false := by simp; omega
   by_cases hlm : ns.length % 3 = 0
   case neg =>
    have HF := qh (rdG_len HN.out (okLen_no (fun h => hlm h.2)))
    have hdm : decide (0 < (ns.length : Int) % 3) = true := by simp; omega
    obtain ⟨c0, c1, c2, c3⟩ := b1.d4
    have f0 := b1.frozen 0
    have f1 := b1.frozen 1
    have f2 := b1.frozen 2
    have f3 := b1.frozen 3
    go_wp2
    have q := (put4_box b1 (ii 0) (ii 0) (ii 0) (nsl))
    have hnf := (put4_nx hxw (Nat.le_refl w.heap.size) (ii 0) (ii 0) (ii 0) (nsl))
    change bodyPost _ _ _ _ _ (put4 w1 w.heap.size (ii 0) (ii 0) (ii 0) (nsl))
    change Box (put4 w1 w.heap.size (ii 0) (ii 0) (ii 0) (nsl)) _ _ _ at q
    generalize put4 w1 w.heap.size (ii 0) (ii 0) (ii 0) (nsl) = Wf at *
    obtain ⟨g0, g1, g2, g3⟩ := q.d4
    exact bodyPost_ret (v := .tuple #[.agg #[ii 0, ii 0, ii 0, nsl], .bool false]) (by simp [results, Tryz.results197, go_sem, g0, g1, g2, g3]) rfl (RetST.no HF.out hnf)
   case pos =>
    have hdm : decide (0 < (ns.length : Int) % 3) = false := by simp; omega
    obtain ⟨N, hN⟩ : ∃ N, ns.length = 3 + 3 * N := ⟨ns.length / 3 - 1, by omega⟩
    have HNN := qh hN
    have HOL := qh (okLen_yes hl3 hlm)
    clear hN hlm
    obtain ⟨b, off, rfl, hb, hcl⟩ := hrow.at0 (by omega)
    obtain ⟨n0, Hn0⟩ : ∃ n, Hid (ns.getD 0 0 = n) := ⟨_, rfl⟩
    obtain ⟨n1, Hn1⟩ : ∃ n, Hid (ns.getD 1 0 = n) := ⟨_, rfl⟩
    obtain ⟨n2, Hn2⟩ : ∃ n, Hid (ns.getD 2 0 = n) := ⟨_, rfl⟩
    have k0 : w1.cell? ⟨b, off, none⟩ = some (ii n0) := by have := hcl 0 (by omega); unfold intAt at this; rw [Hn0.out] at this; exact this
    have k1 : w1.cell? ⟨b, off + 1, none⟩ = some (ii n1) := by have := hcl 1 (by omega); unfold intAt at this; rw [Hn1.out] at this; exact this
    have k2 : w1.cell? ⟨b, off + 2, none⟩ = some (ii n2) := by have := hcl 2 (by omega); unfold intAt at this; rw [Hn2.out] at this; exact this
    have HCL := qh hcl
    have hi0' : (0 : Int) < (ns.length : Int) := by omega
    have hi1' : (1 : Int) < (ns.length : Int) := by omega
    have hi2' : (2 : Int) < (ns.length : Int) := by omega
    have hm0 : 0 < ns.length := by omega
    have hm1 : 1 < ns.length := by omega
    have hm2 : 2 < ns.length := by omega
    clear hcl hrow
    go_wp2_with fail
    refine wp_planA (.t 0 (.t 1 (.t 2 (.t 3 (.t 4 (.t 5 (.t 6 (.t 7 (.t 8 (.b 9 (.t 10 (.c 11 (.c 12 .e))) 11 (.c 9 (.t 10 (.c 12 .e))))))))))))) (fun w' => w'.cell? ⟨b, off, none⟩ = some (ii n0) ∧ w'.cell? ⟨b, off + 1, none⟩ = some (ii n1) ∧ w'.cell? ⟨b, off + 2, none⟩ = some (ii n2)) (by exact ⟨k0, k1, k2⟩) ?_
    simp only [psOf, List.getD_cons_zero, List.getD_cons_succ]
    repeat ((first | refine HP.tk ?_ | refine HP.sk ?_); try simp only [Act.put, qqA, qqB, qqC])
    refine HP.both ?_ ?_
    · refine cSt fun K hK => ?_
      go_simp
      refine hK.out _ _ (by exact ⟨(((Nx.refl w1).drew.alloc (.cells #[] 192)).cell (p := ⟨b, off, none⟩) hb).trans k0, (((Nx.refl w1).drew.alloc (.cells #[] 192)).cell (p := ⟨b, off + 1, none⟩) hb).trans k1, (((Nx.refl w1).drew.alloc (.cells #[] 192)).cell (p := ⟨b, off + 2, none⟩) hb).trans k2⟩) ?_
      clear hK K
      try simp only [Act.put, qqA, qqB, qqC]
      repeat ((first | refine HP.tk ?_ | refine HP.sk ?_); try simp only [Act.put, qqA, qqB, qqC])
      refine hPc fun K hK => ?_
      go_simp
      refine hK.out _ _ (by exact ⟨((((Nx.refl w1).drew.alloc (.cells #[] 192)).alloc (.cells #[ii 0, ii 0, ii 0, nsl] 122)).cell (p := ⟨b, off, none⟩) hb).trans k0, ((((Nx.refl w1).drew.alloc (.cells #[] 192)).alloc (.cells #[ii 0, ii 0, ii 0, nsl] 122)).cell (p := ⟨b, off + 1, none⟩) hb).trans k1, ((((Nx.refl w1).drew.alloc (.cells #[] 192)).alloc (.cells #[ii 0, ii 0, ii 0, nsl] 122)).cell (p := ⟨b, off + 2, none⟩) hb).trans k2⟩) ?_
      clear hK K
      try simp only [Act.put, qqA, qqB, qqC]
      refine hPc fun K hK => ?_
      go_simp
      refine hK.out _ _ (by exact ⟨((((Nx.refl w1).drew.alloc (.cells #[] 192)).alloc (.cells #[ii n0, ii n1, ii n2, .slice (some ⟨w1.heap.size, 0, none⟩) 0 0] 122)).cell (p := ⟨b, off, none⟩) hb).trans k0, ((((Nx.refl w1).drew.alloc (.cells #[] 192)).alloc (.cells #[ii n0, ii n1, ii n2, .slice (some ⟨w1.heap.size, 0, none⟩) 0 0] 122)).cell (p := ⟨b, off + 1, none⟩) hb).trans k1, ((((Nx.refl w1).drew.alloc (.cells #[] 192)).alloc (.cells #[ii n0, ii n1, ii n2, .slice (some ⟨w1.heap.size, 0, none⟩) 0 0] 122)).cell (p := ⟨b, off + 2, none⟩) hb).trans k2⟩) ?_
      clear hK K
      try simp only [Act.put, qqA, qqB, qqC]
      refine HP.done ?_
      clear k0 k1 k2 hm0 hm1 hm2 hi0' hi1' hi2'
      have bg0 : Box (World.drew ((w1.alloc (.cells #[] 192)).alloc (.cells #[ii n0, ii n1, ii n2, .slice (some ⟨w1.heap.size, 0, none⟩) 0 0] 122))) (w1.heap.size + 1) 122 #[ii n0, ii n1, ii n2, .slice (some ⟨w1.heap.size, 0, none⟩) 0 0] := by have := Box.new (w1.alloc (.cells #[] 192)) 122 #[ii n0, ii n1, ii n2, .slice (some ⟨w1.heap.size, 0, none⟩) 0 0]; simp only [World.size_alloc] at this; exact this
      have hw0 : World.ownsRow (World.drew ((w1.alloc (.cells #[] 192)).alloc (.cells #[ii n0, ii n1, ii n2, .slice (some ⟨w1.heap.size, 0, none⟩) 0 0] 122))) w1.heap.size 192 3 (.slice (some ⟨w1.heap.size, 0, none⟩) 0 0) 0 [] := (owns_new03 w1 nle).alloc (.cells #[ii n0, ii n1, ii n2, .slice (some ⟨w1.heap.size, 0, none⟩) 0 0] 122)
      have hx3 : Nx w1 (World.drew ((w1.alloc (.cells #[] 192)).alloc (.cells #[ii n0, ii n1, ii n2, .slice (some ⟨w1.heap.size, 0, none⟩) 0 0] 122))) := (((Nx.refl w1).drew.alloc (.cells #[] 192)).alloc (.cells #[ii n0, ii n1, ii n2, .slice (some ⟨w1.heap.size, 0, none⟩) 0 0] 122))
      have hgG : w1.heap.size ≤ (w1.heap.size + 1) := by omega
      change Exit.then _ _ _ _ (World.drew ((w1.alloc (.cells #[] 192)).alloc (.cells #[ii n0, ii n1, ii n2, .slice (some ⟨w1.heap.size, 0, none⟩) 0 0] 122)))
      generalize (World.drew ((w1.alloc (.cells #[] 192)).alloc (.cells #[ii n0, ii n1, ii n2, .slice (some ⟨w1.heap.size, 0, none⟩) 0 0] 122))) = w3 at *
      obtain ⟨gG, HgG⟩ : ∃ g, Hid ((w1.heap.size + 1) = g) := ⟨_, rfl⟩
      rw [HgG.out] at bg0 hgG ⊢
      go_wp2
      go_loopw [9] (fun i wr => SegLoop w1 gG n0 n1 n2 ns i wr) (fun i _ => ns.length - (intOf i).toNat)
      case atStart => exact ⟨0, 3, _, hl3, qh rfl, rfl, bg0, hw0, hx3⟩
      case round =>
       obtain ⟨k, p, v, hp, HPp, rfl, bg, hw, hnx⟩ := hrel
       clear bg0 hx3 hw0
       by_cases hlt : p < ns.length
       · have hp3 : p + 3 ≤ ns.length := by have := HPp.out; have := HNN.out; omega
         have hn9 : ns.length ≤ 65536 := HNL.out
         obtain ⟨q0, Hq0⟩ : ∃ n, Hid (ns.getD p 0 = n) := ⟨_, rfl⟩
         obtain ⟨q1, Hq1⟩ : ∃ n, Hid (ns.getD (p + 1) 0 = n) := ⟨_, rfl⟩
         obtain ⟨q2, Hq2⟩ : ∃ n, Hid (ns.getD (p + 2) 0 = n) := ⟨_, rfl⟩
         have m0 : w1.cell? ⟨b, off + p, none⟩ = some (ii q0) := by have := HCL.out p (by omega); unfold intAt at this; rw [Hq0.out] at this; exact this
         have m1 : w1.cell? ⟨b, off + (p + 1), none⟩ = some (ii q1) := by have := HCL.out (p + 1) (by omega); unfold intAt at this; rw [Hq1.out] at this; exact this
         have m2 : w1.cell? ⟨b, off + (p + 2), none⟩ = some (ii q2) := by have := HCL.out (p + 2) (by omega); unfold intAt at this; rw [Hq2.out] at this; exact this
         have HQ := qh (show chV (chN3 ns k) = [ii q0, ii q1, ii q2] by
          unfold chV chN3; rw [← HPp.out, Hq0.out, Hq1.out, Hq2.out])
         have HO : Hid (∀ u ∈ [Value.int .i64 (q0 : Int), ii q1, ii q2], u.oneCell' = true) := qh (fun u hu => by simp only [List.mem_cons, List.not_mem_nil, or_false] at hu; rcases hu with rfl | rfl | rfl <;> rfl)
         have hbw := hb
         have hk9 : k ≤ 100000 := by have := HPp.out; omega
         obtain ⟨_, _, _, c3⟩ := bg.d4
         have hw1a : (p : Int) + 1 < (ns.length : Int) := by omega
         have hw1b : (p : Int) + 2 < (ns.length : Int) := by omega
         have hw1c : (p : Int) < (ns.length : Int) := by omega
         have hw2a : ((p : Int) + 1).toNat = p + 1 := by omega
         have hw2b : ((p : Int) + 2).toNat = p + 2 := by omega
         have hw3a : (0 : Int) ≤ (p : Int) + 1 := by omega
         have hw3b : (0 : Int) ≤ (p : Int) + 2 := by omega
         have hw4a : IntKind.i64.wrap ((p : Int) + 1) = (p : Int) + 1 := IntWalk.i64_in _ (by omega)
         have hw4b : IntKind.i64.wrap ((p : Int) + 2) = (p : Int) + 2 := IntWalk.i64_in _ (by omega)
         go_wp2_with fail
         refine wp_planA (.t 0 (.t 2 (.t 3 (.t 4 (.t 5 (.t 6 (.t 7 (.t 8 (.t 9 (.t 10 (.t 11 (.t 12 (.t 13 (.t 14 (.t 15 (.t 16 (.b 1 (.c 17 (.c 18 (.t 19 (.c 20 .e)))) 17 (.c 1 (.c 18 (.t 19 (.c 20 .e))))))))))))))))))))) (fun w' => w'.cell? ⟨b, off + p, none⟩ = some (ii q0) ∧ w'.cell? ⟨b, off + (p + 1), none⟩ = some (ii q1) ∧ w'.cell? ⟨b, off + (p + 2), none⟩ = some (ii q2)) (by exact ⟨(hnx.drew.cell (p := ⟨b, off + p, none⟩) hbw).trans m0, (hnx.drew.cell (p := ⟨b, off + (p + 1), none⟩) hbw).trans m1, (hnx.drew.cell (p := ⟨b, off + (p + 2), none⟩) hbw).trans m2⟩) ?_
         simp only [psOf, List.getD_cons_zero, List.getD_cons_succ]
         repeat ((first | refine HP.tk ?_ | refine HP.sk ?_); try simp only [Act.put, qqA, qqB, qqC])
         refine HP.both ?_ ?_
         · have hx1 := hnx.drew.alloc (.cells #[ii q0, ii q1, ii q2] 192)
           have hw1 := (owns_nx3 hw (Nx.refl wr).drew).alloc (.cells #[ii q0, ii q1, ii q2] 192)
           have bz := (bg.nx (Nx.refl wr).drew).alloc (.cells #[ii q0, ii q1, ii q2] 192)
           have HNW := qh (news3 wr.drew 192 (ii q0) (ii q1) (ii q2))
           have hlt := bg.lt
           refine cSt fun K hK => ?_
           go_simp
           refine hK.out _ _ (by exact ⟨(hnx.drew.cell (p := ⟨b, off + p, none⟩) hbw).trans m0, (hnx.drew.cell (p := ⟨b, off + (p + 1), none⟩) hbw).trans m1, (hnx.drew.cell (p := ⟨b, off + (p + 2), none⟩) hbw).trans m2⟩) ?_
           clear hK K
           try simp only [Act.put, qqA, qqB, qqC]
           refine hPc fun K hK => ?_
           go_simp
           refine hK.out _ _ (by exact ⟨(hx1.cell (p := ⟨b, off + p, none⟩) hbw).trans m0, (hx1.cell (p := ⟨b, off + (p + 1), none⟩) hbw).trans m1, (hx1.cell (p := ⟨b, off + (p + 2), none⟩) hbw).trans m2⟩) ?_
           clear hK K
           try simp only [Act.put, qqA, qqB, qqC]
           change HP _ _ _ _ _ _ (wr.drew.alloc (.cells #[ii q0, ii q1, ii q2] 192))
           generalize wr.drew.alloc (.cells #[ii q0, ii q1, ii q2] 192) = wz at *
           refine hPc fun K hK => ?_
           refine wp_append_own wz _ _ 120 rfl w1.heap.size 192 i0 _ 3 24 Tryz.underlying120 hi0 hz0 hz1 hz2 rfl (by omega) v k _ rfl hw1 ⟨wr.heap.size, 0, none⟩ 1 1 [ii q0, ii q1, ii q2] rfl rfl HNW.out HO.out (by unfold maxLen; omega) (by omega) hx1.size ?_
           intro v2 w2 hw2 hg2 _
           obtain ⟨g2, cp2, rfl, _, _⟩ := hw2.form (by omega)
           have hx2 : Nx w1 w2 := Below.grown hx1 hg2 hx1.size (fun k hk => (hw1.lt k hk).1)
           have bg2 : Box w2 gG 122 #[ii n0, ii n1, ii n2, v] := bz.grown hg2 (owns_ne hw1 bz)
           refine hK.out _ _ (by exact ⟨(hx2.cell (p := ⟨b, off + p, none⟩) hbw).trans m0, (hx2.cell (p := ⟨b, off + (p + 1), none⟩) hbw).trans m1, (hx2.cell (p := ⟨b, off + (p + 2), none⟩) hbw).trans m2⟩) ?_
           clear hK K
           try simp only [Act.put, qqA, qqB, qqC]
           repeat ((first | refine HP.tk ?_ | refine HP.sk ?_); try simp only [Act.put, qqA, qqB, qqC])
           obtain ⟨_, _, _, d3⟩ := bg2.d4
           have f3 := bg2.frozen 3
           refine hPc fun K hK => ?_
           go_simp
           have hx3 := hx2.setCell (p := ⟨gG, 3, none⟩) hgG (.slice (some ⟨g2, 0, none⟩) (k + 1) cp2)
           refine hK.out _ _ (by exact ⟨(hx3.cell (p := ⟨b, off + p, none⟩) hbw).trans m0, (hx3.cell (p := ⟨b, off + (p + 1), none⟩) hbw).trans m1, (hx3.cell (p := ⟨b, off + (p + 2), none⟩) hbw).trans m2⟩) ?_
           clear hK K
           try simp only [Act.put, qqA, qqB, qqC]
           refine HP.done ?_
           clear hw1a hw1b hw1c hw2a hw2b hw3a hw3b hw4a hw4b
           have bg3 := bg2.set 3 (.slice (some ⟨g2, 0, none⟩) (k + 1) cp2)
           have hw3 := owns_far (u := (.slice (some ⟨g2, 0, none⟩) (k + 1) cp2)) (i := 3) hw2 bg2
           clear d3 f3 c3
           go_wp2
           go_roundw
           case rel =>
            refine ⟨k + 1, p + 3, _, by omega, qh (by have := HPp.out; omega), by go_num, bg3, ?_, hx3⟩
            rw [chsV_succ, HQ.out]; exact hw3
           case measure => simp [intOf]; omega
         · have hx1 := hnx.drew.alloc (.cells #[ii q0, ii q1, ii q2] 192)
           have hw1 := (owns_nx3 hw (Nx.refl wr).drew).alloc (.cells #[ii q0, ii q1, ii q2] 192)
           have bz := (bg.nx (Nx.refl wr).drew).alloc (.cells #[ii q0, ii q1, ii q2] 192)
           have HNW := qh (news3 wr.drew 192 (ii q0) (ii q1) (ii q2))
           have hlt := bg.lt
           refine cSt fun K hK => ?_
           go_simp
           refine hK.out _ _ (by exact ⟨(hx1.cell (p := ⟨b, off + p, none⟩) hbw).trans m0, (hx1.cell (p := ⟨b, off + (p + 1), none⟩) hbw).trans m1, (hx1.cell (p := ⟨b, off + (p + 2), none⟩) hbw).trans m2⟩) ?_
           clear hK K
           try simp only [Act.put, qqA, qqB, qqC]
           refine hPc fun K hK => ?_
           go_simp
           refine hK.out _ _ (by exact ⟨(hx1.cell (p := ⟨b, off + p, none⟩) hbw).trans m0, (hx1.cell (p := ⟨b, off + (p + 1), none⟩) hbw).trans m1, (hx1.cell (p := ⟨b, off + (p + 2), none⟩) hbw).trans m2⟩) ?_
           clear hK K
           try simp only [Act.put, qqA, qqB, qqC]
           change HP _ _ _ _ _ _ (wr.drew.alloc (.cells #[ii q0, ii q1, ii q2] 192))
           generalize wr.drew.alloc (.cells #[ii q0, ii q1, ii q2] 192) = wz at *
           refine hPc fun K hK => ?_
           refine wp_append_own wz _ _ 120 rfl w1.heap.size 192 i0 _ 3 24 Tryz.underlying120 hi0 hz0 hz1 hz2 rfl (by omega) v k _ rfl hw1 ⟨wr.heap.size, 0, none⟩ 1 1 [ii q0, ii q1, ii q2] rfl rfl HNW.out HO.out (by unfold maxLen; omega) (by omega) hx1.size ?_
           intro v2 w2 hw2 hg2 _
           obtain ⟨g2, cp2, rfl, _, _⟩ := hw2.form (by omega)
           have hx2 : Nx w1 w2 := Below.grown hx1 hg2 hx1.size (fun k hk => (hw1.lt k hk).1)
           have bg2 : Box w2 gG 122 #[ii n0, ii n1, ii n2, v] := bz.grown hg2 (owns_ne hw1 bz)
           refine hK.out _ _ (by exact ⟨(hx2.cell (p := ⟨b, off + p, none⟩) hbw).trans m0, (hx2.cell (p := ⟨b, off + (p + 1), none⟩) hbw).trans m1, (hx2.cell (p := ⟨b, off + (p + 2), none⟩) hbw).trans m2⟩) ?_
           clear hK K
           try simp only [Act.put, qqA, qqB, qqC]
           repeat ((first | refine HP.tk ?_ | refine HP.sk ?_); try simp only [Act.put, qqA, qqB, qqC])
           obtain ⟨_, _, _, d3⟩ := bg2.d4
           have f3 := bg2.frozen 3
           refine hPc fun K hK => ?_
           go_simp
           have hx3 := hx2.setCell (p := ⟨gG, 3, none⟩) hgG (.slice (some ⟨g2, 0, none⟩) (k + 1) cp2)
           refine hK.out _ _ (by exact ⟨(hx3.cell (p := ⟨b, off + p, none⟩) hbw).trans m0, (hx3.cell (p := ⟨b, off + (p + 1), none⟩) hbw).trans m1, (hx3.cell (p := ⟨b, off + (p + 2), none⟩) hbw).trans m2⟩) ?_
           clear hK K
           try simp only [Act.put, qqA, qqB, qqC]
           refine HP.done ?_
           clear hw1a hw1b hw1c hw2a hw2b hw3a hw3b hw4a hw4b
           have bg3 := bg2.set 3 (.slice (some ⟨g2, 0, none⟩) (k + 1) cp2)
           have hw3 := owns_far (u := (.slice (some ⟨g2, 0, none⟩) (k + 1) cp2)) (i := 3) hw2 bg2
           clear d3 f3 c3
           go_wp2
           go_roundw
           case rel =>
            refine ⟨k + 1, p + 3, _, by omega, qh (by have := HPp.out; omega), by go_num, bg3, ?_, hx3⟩
            rw [chsV_succ, HQ.out]; exact hw3
           case measure => simp [intOf]; omega
       · obtain rfl : p = ns.length := by omega
         have hkN : k = ns.length / 3 - 1 := by have := HPp.out; omega
         have hlen := chOf_len ns k
         have hw' : wr.ownsRow w1.heap.size 192 3 v (chOf ns k).length (chsV (chOf ns k)) := by rw [hlen]; exact hw
         obtain ⟨A2, cp9, rfl, hSl⟩ := owns_slC hw'
         have HQ4 := qh (show sgOf ns = (n0, n1, n2, chOf ns k) by unfold sgOf; rw [Hn0.out, Hn1.out, Hn2.out, ← hkN])
         have hcl9 : (chOf ns k).length ≤ 1048576 := by rw [hlen]; have := HNL.out; omega
         have bw := b1.nx hnx
         have hxr := hxw.trans hnx
         have hgl : w.heap.size < w1.heap.size := b1.lt
         clear hw hw' hlen hkN
         obtain ⟨x0, x1, x2, x3⟩ := bg.d4
         go_wp2_with fail
         refine (specSegOK_c n0 n1 n2 A2 cp9 _ (chOf ns k) _ hSl.row nle hcl9).mono ?_
         rintro e w5 ⟨rfl, hnx5⟩
         have b5 := bw.nx hnx5
         have bg5 := bg.nx hnx5
         have hx5 := hxr.trans hnx5
         have hS5 := hSl.nx hnx5
         clear x0 x1 x2 x3
         obtain ⟨x0, x1, x2, x3⟩ := bg5.d4
         cases hf : segB n0 n1 n2 (chOf ns k) with
         | false =>
           have HF := qh (rdG_no HN.out (by unfold g4B; rw [HQ4.out]; exact hf))
           clear hf
           obtain ⟨c0, c1, c2, c3⟩ := b5.d4
           have f0 := b5.frozen 0
           have f1 := b5.frozen 1
           have f2 := b5.frozen 2
           have f3 := b5.frozen 3
           go_wp2
           have q := (put4_box b5 (ii 0) (ii 0) (ii 0) (nsl))
           have hnf := (put4_nx hx5 (Nat.le_refl w.heap.size) (ii 0) (ii 0) (ii 0) (nsl))
           change bodyPost _ _ _ _ _ (put4 w5 w.heap.size (ii 0) (ii 0) (ii 0) (nsl))
           change Box (put4 w5 w.heap.size (ii 0) (ii 0) (ii 0) (nsl)) _ _ _ at q
           generalize put4 w5 w.heap.size (ii 0) (ii 0) (ii 0) (nsl) = Wf at *
           obtain ⟨g0, g1, g2, g3⟩ := q.d4
           exact bodyPost_ret (v := .tuple #[.agg #[ii 0, ii 0, ii 0, nsl], .bool false]) (by simp [results, Tryz.results197, go_sem, g0, g1, g2, g3]) rfl (RetST.no HF.out hnf)
           | true =>
           have HF := qh (rdG_yes HN.out HOL.out (by unfold g4B; rw [HQ4.out]; exact hf))
           clear hf
           obtain ⟨c0, c1, c2, c3⟩ := b5.d4
           have f0 := b5.frozen 0
           have f1 := b5.frozen 1
           have f2 := b5.frozen 2
           have f3 := b5.frozen 3
           go_wp2
           have q := (put4_box b5 (ii n0) (ii n1) (ii n2) (.slice A2 (chOf ns k).length cp9))
           have hnf := (put4_nx hx5 (Nat.le_refl w.heap.size) (ii n0) (ii n1) (ii n2) (.slice A2 (chOf ns k).length cp9))
           have hsf := (hS5.put4 hgl (ii n0) (ii n1) (ii n2) (.slice A2 (chOf ns k).length cp9))
           change Sl (put4 w5 w.heap.size (ii n0) (ii n1) (ii n2) (.slice A2 (chOf ns k).length cp9)) _ _ _ _ _ at hsf
           change bodyPost _ _ _ _ _ (put4 w5 w.heap.size (ii n0) (ii n1) (ii n2) (.slice A2 (chOf ns k).length cp9))
           change Box (put4 w5 w.heap.size (ii n0) (ii n1) (ii n2) (.slice A2 (chOf ns k).length cp9)) _ _ _ at q
           generalize put4 w5 w.heap.size (ii n0) (ii n1) (ii n2) (.slice A2 (chOf ns k).length cp9) = Wf at *
           obtain ⟨g0, g1, g2, g3⟩ := q.d4
           exact bodyPost_ret (v := .tuple #[.agg #[ii n0, ii n1, ii n2, .slice A2 (chOf ns k).length cp9], .bool true]) (by simp [results, Tryz.results197, go_sem, g0, g1, g2, g3]) rfl (RetST.yes HF.out HQ4.out (hsf.low (by omega)) hnf)
    · refine cSt fun K hK => ?_
      go_simp
      refine hK.out _ _ (by exact ⟨(((Nx.refl w1).drew.alloc (.cells #[ii 0, ii 0, ii 0, nsl] 122)).cell (p := ⟨b, off, none⟩) hb).trans k0, (((Nx.refl w1).drew.alloc (.cells #[ii 0, ii 0, ii 0, nsl] 122)).cell (p := ⟨b, off + 1, none⟩) hb).trans k1, (((Nx.refl w1).drew.alloc (.cells #[ii 0, ii 0, ii 0, nsl] 122)).cell (p := ⟨b, off + 2, none⟩) hb).trans k2⟩) ?_
      clear hK K
      try simp only [Act.put, qqA, qqB, qqC]
      refine hPc fun K hK => ?_
      go_simp
      refine hK.out _ _ (by exact ⟨((((Nx.refl w1).drew.alloc (.cells #[ii 0, ii 0, ii 0, nsl] 122)).alloc (.cells #[] 192)).cell (p := ⟨b, off, none⟩) hb).trans k0, ((((Nx.refl w1).drew.alloc (.cells #[ii 0, ii 0, ii 0, nsl] 122)).alloc (.cells #[] 192)).cell (p := ⟨b, off + 1, none⟩) hb).trans k1, ((((Nx.refl w1).drew.alloc (.cells #[ii 0, ii 0, ii 0, nsl] 122)).alloc (.cells #[] 192)).cell (p := ⟨b, off + 2, none⟩) hb).trans k2⟩) ?_
      clear hK K
      try simp only [Act.put, qqA, qqB, qqC]
      repeat ((first | refine HP.tk ?_ | refine HP.sk ?_); try simp only [Act.put, qqA, qqB, qqC])
      refine hPc fun K hK => ?_
      go_simp
      refine hK.out _ _ (by exact ⟨((((Nx.refl w1).drew.alloc (.cells #[ii n0, ii n1, ii n2, .slice (some ⟨(w1.heap.size + 1), 0, none⟩) 0 0] 122)).alloc (.cells #[] 192)).cell (p := ⟨b, off, none⟩) hb).trans k0, ((((Nx.refl w1).drew.alloc (.cells #[ii n0, ii n1, ii n2, .slice (some ⟨(w1.heap.size + 1), 0, none⟩) 0 0] 122)).alloc (.cells #[] 192)).cell (p := ⟨b, off + 1, none⟩) hb).trans k1, ((((Nx.refl w1).drew.alloc (.cells #[ii n0, ii n1, ii n2, .slice (some ⟨(w1.heap.size + 1), 0, none⟩) 0 0] 122)).alloc (.cells #[] 192)).cell (p := ⟨b, off + 2, none⟩) hb).trans k2⟩) ?_
      clear hK K
      try simp only [Act.put, qqA, qqB, qqC]
      refine HP.done ?_
      clear k0 k1 k2 hm0 hm1 hm2 hi0' hi1' hi2'
      have bg0 : Box (World.drew ((w1.alloc (.cells #[ii n0, ii n1, ii n2, .slice (some ⟨(w1.heap.size + 1), 0, none⟩) 0 0] 122)).alloc (.cells #[] 192))) w1.heap.size 122 #[ii n0, ii n1, ii n2, .slice (some ⟨(w1.heap.size + 1), 0, none⟩) 0 0] := (Box.new w1 _ _).alloc (.cells #[] 192)
      have hw0 : World.ownsRow (World.drew ((w1.alloc (.cells #[ii n0, ii n1, ii n2, .slice (some ⟨(w1.heap.size + 1), 0, none⟩) 0 0] 122)).alloc (.cells #[] 192))) w1.heap.size 192 3 (.slice (some ⟨(w1.heap.size + 1), 0, none⟩) 0 0) 0 [] := by have := owns_new03 (w1.alloc (.cells #[ii n0, ii n1, ii n2, .slice (some ⟨(w1.heap.size + 1), 0, none⟩) 0 0] 122)) (B := w1.heap.size) (by simp); simp only [World.size_alloc] at this; exact this
      have hx3 : Nx w1 (World.drew ((w1.alloc (.cells #[ii n0, ii n1, ii n2, .slice (some ⟨(w1.heap.size + 1), 0, none⟩) 0 0] 122)).alloc (.cells #[] 192))) := (((Nx.refl w1).drew.alloc (.cells #[ii n0, ii n1, ii n2, .slice (some ⟨(w1.heap.size + 1), 0, none⟩) 0 0] 122)).alloc (.cells #[] 192))
      have hgG : w1.heap.size ≤ w1.heap.size := by omega
      change Exit.then _ _ _ _ (World.drew ((w1.alloc (.cells #[ii n0, ii n1, ii n2, .slice (some ⟨(w1.heap.size + 1), 0, none⟩) 0 0] 122)).alloc (.cells #[] 192)))
      generalize (World.drew ((w1.alloc (.cells #[ii n0, ii n1, ii n2, .slice (some ⟨(w1.heap.size + 1), 0, none⟩) 0 0] 122)).alloc (.cells #[] 192))) = w3 at *
      go_wp2
      go_loopw [9] (fun i wr => SegLoop w1 w1.heap.size n0 n1 n2 ns i wr) (fun i _ => ns.length - (intOf i).toNat)
      case atStart => exact ⟨0, 3, _, hl3, qh rfl, rfl, bg0, hw0, hx3⟩
      case round =>
       obtain ⟨k, p, v, hp, HPp, rfl, bg, hw, hnx⟩ := hrel
       clear bg0 hx3 hw0
       by_cases hlt : p < ns.length
       · have hp3 : p + 3 ≤ ns.length := by have := HPp.out; have := HNN.out; omega
         have hn9 : ns.length ≤ 65536 := HNL.out
         obtain ⟨q0, Hq0⟩ : ∃ n, Hid (ns.getD p 0 = n) := ⟨_, rfl⟩
         obtain ⟨q1, Hq1⟩ : ∃ n, Hid (ns.getD (p + 1) 0 = n) := ⟨_, rfl⟩
         obtain ⟨q2, Hq2⟩ : ∃ n, Hid (ns.getD (p + 2) 0 = n) := ⟨_, rfl⟩
         have m0 : w1.cell? ⟨b, off + p, none⟩ = some (ii q0) := by have := HCL.out p (by omega); unfold intAt at this; rw [Hq0.out] at this; exact this
         have m1 : w1.cell? ⟨b, off + (p + 1), none⟩ = some (ii q1) := by have := HCL.out (p + 1) (by omega); unfold intAt at this; rw [Hq1.out] at this; exact this
         have m2 : w1.cell? ⟨b, off + (p + 2), none⟩ = some (ii q2) := by have := HCL.out (p + 2) (by omega); unfold intAt at this; rw [Hq2.out] at this; exact this
         have HQ := qh (show chV (chN3 ns k) = [ii q0, ii q1, ii q2] by
          unfold chV chN3; rw [← HPp.out, Hq0.out, Hq1.out, Hq2.out])
         have HO : Hid (∀ u ∈ [Value.int .i64 (q0 : Int), ii q1, ii q2], u.oneCell' = true) := qh (fun u hu => by simp only [List.mem_cons, List.not_mem_nil, or_false] at hu; rcases hu with rfl | rfl | rfl <;> rfl)
         have hbw := hb
         have hk9 : k ≤ 100000 := by have := HPp.out; omega
         obtain ⟨_, _, _, c3⟩ := bg.d4
         have hw1a : (p : Int) + 1 < (ns.length : Int) := by omega
         have hw1b : (p : Int) + 2 < (ns.length : Int) := by omega
         have hw1c : (p : Int) < (ns.length : Int) := by omega
         have hw2a : ((p : Int) + 1).toNat = p + 1 := by omega
         have hw2b : ((p : Int) + 2).toNat = p + 2 := by omega
         have hw3a : (0 : Int) ≤ (p : Int) + 1 := by omega
         have hw3b : (0 : Int) ≤ (p : Int) + 2 := by omega
         have hw4a : IntKind.i64.wrap ((p : Int) + 1) = (p : Int) + 1 := IntWalk.i64_in _ (by omega)
         have hw4b : IntKind.i64.wrap ((p : Int) + 2) = (p : Int) + 2 := IntWalk.i64_in _ (by omega)
         go_wp2_with fail
         refine wp_planA (.t 0 (.t 2 (.t 3 (.t 4 (.t 5 (.t 6 (.t 7 (.t 8 (.t 9 (.t 10 (.t 11 (.t 12 (.t 13 (.t 14 (.t 15 (.t 16 (.b 1 (.c 17 (.c 18 (.t 19 (.c 20 .e)))) 17 (.c 1 (.c 18 (.t 19 (.c 20 .e))))))))))))))))))))) (fun w' => w'.cell? ⟨b, off + p, none⟩ = some (ii q0) ∧ w'.cell? ⟨b, off + (p + 1), none⟩ = some (ii q1) ∧ w'.cell? ⟨b, off + (p + 2), none⟩ = some (ii q2)) (by exact ⟨(hnx.drew.cell (p := ⟨b, off + p, none⟩) hbw).trans m0, (hnx.drew.cell (p := ⟨b, off + (p + 1), none⟩) hbw).trans m1, (hnx.drew.cell (p := ⟨b, off + (p + 2), none⟩) hbw).trans m2⟩) ?_
         simp only [psOf, List.getD_cons_zero, List.getD_cons_succ]
         repeat ((first | refine HP.tk ?_ | refine HP.sk ?_); try simp only [Act.put, qqA, qqB, qqC])
         refine HP.both ?_ ?_
         · have hx1 := hnx.drew.alloc (.cells #[ii q0, ii q1, ii q2] 192)
           have hw1 := (owns_nx3 hw (Nx.refl wr).drew).alloc (.cells #[ii q0, ii q1, ii q2] 192)
           have bz := (bg.nx (Nx.refl wr).drew).alloc (.cells #[ii q0, ii q1, ii q2] 192)
           have HNW := qh (news3 wr.drew 192 (ii q0) (ii q1) (ii q2))
           have hlt := bg.lt
           refine cSt fun K hK => ?_
           go_simp
           refine hK.out _ _ (by exact ⟨(hnx.drew.cell (p := ⟨b, off + p, none⟩) hbw).trans m0, (hnx.drew.cell (p := ⟨b, off + (p + 1), none⟩) hbw).trans m1, (hnx.drew.cell (p := ⟨b, off + (p + 2), none⟩) hbw).trans m2⟩) ?_
           clear hK K
           try simp only [Act.put, qqA, qqB, qqC]
           refine hPc fun K hK => ?_
           go_simp
           refine hK.out _ _ (by exact ⟨(hx1.cell (p := ⟨b, off + p, none⟩) hbw).trans m0, (hx1.cell (p := ⟨b, off + (p + 1), none⟩) hbw).trans m1, (hx1.cell (p := ⟨b, off + (p + 2), none⟩) hbw).trans m2⟩) ?_
           clear hK K
           try simp only [Act.put, qqA, qqB, qqC]
           change HP _ _ _ _ _ _ (wr.drew.alloc (.cells #[ii q0, ii q1, ii q2] 192))
           generalize wr.drew.alloc (.cells #[ii q0, ii q1, ii q2] 192) = wz at *
           refine hPc fun K hK => ?_
           refine wp_append_own wz _ _ 120 rfl w1.heap.size 192 i0 _ 3 24 Tryz.underlying120 hi0 hz0 hz1 hz2 rfl (by omega) v k _ rfl hw1 ⟨wr.heap.size, 0, none⟩ 1 1 [ii q0, ii q1, ii q2] rfl rfl HNW.out HO.out (by unfold maxLen; omega) (by omega) hx1.size ?_
           intro v2 w2 hw2 hg2 _
           obtain ⟨g2, cp2, rfl, _, _⟩ := hw2.form (by omega)
           have hx2 : Nx w1 w2 := Below.grown hx1 hg2 hx1.size (fun k hk => (hw1.lt k hk).1)
           have bg2 : Box w2 w1.heap.size 122 #[ii n0, ii n1, ii n2, v] := bz.grown hg2 (owns_ne hw1 bz)
           refine hK.out _ _ (by exact ⟨(hx2.cell (p := ⟨b, off + p, none⟩) hbw).trans m0, (hx2.cell (p := ⟨b, off + (p + 1), none⟩) hbw).trans m1, (hx2.cell (p := ⟨b, off + (p + 2), none⟩) hbw).trans m2⟩) ?_
           clear hK K
           try simp only [Act.put, qqA, qqB, qqC]
           repeat ((first | refine HP.tk ?_ | refine HP.sk ?_); try simp only [Act.put, qqA, qqB, qqC])
           obtain ⟨_, _, _, d3⟩ := bg2.d4
           have f3 := bg2.frozen 3
           refine hPc fun K hK => ?_
           go_simp
           have hx3 := hx2.setCell (p := ⟨w1.heap.size, 3, none⟩) hgG (.slice (some ⟨g2, 0, none⟩) (k + 1) cp2)
           refine hK.out _ _ (by exact ⟨(hx3.cell (p := ⟨b, off + p, none⟩) hbw).trans m0, (hx3.cell (p := ⟨b, off + (p + 1), none⟩) hbw).trans m1, (hx3.cell (p := ⟨b, off + (p + 2), none⟩) hbw).trans m2⟩) ?_
           clear hK K
           try simp only [Act.put, qqA, qqB, qqC]
           refine HP.done ?_
           clear hw1a hw1b hw1c hw2a hw2b hw3a hw3b hw4a hw4b
           have bg3 := bg2.set 3 (.slice (some ⟨g2, 0, none⟩) (k + 1) cp2)
           have hw3 := owns_far (u := (.slice (some ⟨g2, 0, none⟩) (k + 1) cp2)) (i := 3) hw2 bg2
           clear d3 f3 c3
           go_wp2
           go_roundw
           case rel =>
            refine ⟨k + 1, p + 3, _, by omega, qh (by have := HPp.out; omega), by go_num, bg3, ?_, hx3⟩
            rw [chsV_succ, HQ.out]; exact hw3
           case measure => simp [intOf]; omega
         · have hx1 := hnx.drew.alloc (.cells #[ii q0, ii q1, ii q2] 192)
           have hw1 := (owns_nx3 hw (Nx.refl wr).drew).alloc (.cells #[ii q0, ii q1, ii q2] 192)
           have bz := (bg.nx (Nx.refl wr).drew).alloc (.cells #[ii q0, ii q1, ii q2] 192)
           have HNW := qh (news3 wr.drew 192 (ii q0) (ii q1) (ii q2))
           have hlt := bg.lt
           refine cSt fun K hK => ?_
           go_simp
           refine hK.out _ _ (by exact ⟨(hx1.cell (p := ⟨b, off + p, none⟩) hbw).trans m0, (hx1.cell (p := ⟨b, off + (p + 1), none⟩) hbw).trans m1, (hx1.cell (p := ⟨b, off + (p + 2), none⟩) hbw).trans m2⟩) ?_
           clear hK K
           try simp only [Act.put, qqA, qqB, qqC]
           refine hPc fun K hK => ?_
           go_simp
           refine hK.out _ _ (by exact ⟨(hx1.cell (p := ⟨b, off + p, none⟩) hbw).trans m0, (hx1.cell (p := ⟨b, off + (p + 1), none⟩) hbw).trans m1, (hx1.cell (p := ⟨b, off + (p + 2), none⟩) hbw).trans m2⟩) ?_
           clear hK K
           try simp only [Act.put, qqA, qqB, qqC]
           change HP _ _ _ _ _ _ (wr.drew.alloc (.cells #[ii q0, ii q1, ii q2] 192))
           generalize wr.drew.alloc (.cells #[ii q0, ii q1, ii q2] 192) = wz at *
           refine hPc fun K hK => ?_
           refine wp_append_own wz _ _ 120 rfl w1.heap.size 192 i0 _ 3 24 Tryz.underlying120 hi0 hz0 hz1 hz2 rfl (by omega) v k _ rfl hw1 ⟨wr.heap.size, 0, none⟩ 1 1 [ii q0, ii q1, ii q2] rfl rfl HNW.out HO.out (by unfold maxLen; omega) (by omega) hx1.size ?_
           intro v2 w2 hw2 hg2 _
           obtain ⟨g2, cp2, rfl, _, _⟩ := hw2.form (by omega)
           have hx2 : Nx w1 w2 := Below.grown hx1 hg2 hx1.size (fun k hk => (hw1.lt k hk).1)
           have bg2 : Box w2 w1.heap.size 122 #[ii n0, ii n1, ii n2, v] := bz.grown hg2 (owns_ne hw1 bz)
           refine hK.out _ _ (by exact ⟨(hx2.cell (p := ⟨b, off + p, none⟩) hbw).trans m0, (hx2.cell (p := ⟨b, off + (p + 1), none⟩) hbw).trans m1, (hx2.cell (p := ⟨b, off + (p + 2), none⟩) hbw).trans m2⟩) ?_
           clear hK K
           try simp only [Act.put, qqA, qqB, qqC]
           repeat ((first | refine HP.tk ?_ | refine HP.sk ?_); try simp only [Act.put, qqA, qqB, qqC])
           obtain ⟨_, _, _, d3⟩ := bg2.d4
           have f3 := bg2.frozen 3
           refine hPc fun K hK => ?_
           go_simp
           have hx3 := hx2.setCell (p := ⟨w1.heap.size, 3, none⟩) hgG (.slice (some ⟨g2, 0, none⟩) (k + 1) cp2)
           refine hK.out _ _ (by exact ⟨(hx3.cell (p := ⟨b, off + p, none⟩) hbw).trans m0, (hx3.cell (p := ⟨b, off + (p + 1), none⟩) hbw).trans m1, (hx3.cell (p := ⟨b, off + (p + 2), none⟩) hbw).trans m2⟩) ?_
           clear hK K
           try simp only [Act.put, qqA, qqB, qqC]
           refine HP.done ?_
           clear hw1a hw1b hw1c hw2a hw2b hw3a hw3b hw4a hw4b
           have bg3 := bg2.set 3 (.slice (some ⟨g2, 0, none⟩) (k + 1) cp2)
           have hw3 := owns_far (u := (.slice (some ⟨g2, 0, none⟩) (k + 1) cp2)) (i := 3) hw2 bg2
           clear d3 f3 c3
           go_wp2
           go_roundw
           case rel =>
            refine ⟨k + 1, p + 3, _, by omega, qh (by have := HPp.out; omega), by go_num, bg3, ?_, hx3⟩
            rw [chsV_succ, HQ.out]; exact hw3
           case measure => simp [intOf]; omega
       · obtain rfl : p = ns.length := by omega
         have hkN : k = ns.length / 3 - 1 := by have := HPp.out; omega
         have hlen := chOf_len ns k
         have hw' : wr.ownsRow w1.heap.size 192 3 v (chOf ns k).length (chsV (chOf ns k)) := by rw [hlen]; exact hw
         obtain ⟨A2, cp9, rfl, hSl⟩ := owns_slC hw'
         have HQ4 := qh (show sgOf ns = (n0, n1, n2, chOf ns k) by unfold sgOf; rw [Hn0.out, Hn1.out, Hn2.out, ← hkN])
         have hcl9 : (chOf ns k).length ≤ 1048576 := by rw [hlen]; have := HNL.out; omega
         have bw := b1.nx hnx
         have hxr := hxw.trans hnx
         have hgl : w.heap.size < w1.heap.size := b1.lt
         clear hw hw' hlen hkN
         obtain ⟨x0, x1, x2, x3⟩ := bg.d4
         go_wp2_with fail
         refine (specSegOK_c n0 n1 n2 A2 cp9 _ (chOf ns k) _ hSl.row nle hcl9).mono ?_
         rintro e w5 ⟨rfl, hnx5⟩
         have b5 := bw.nx hnx5
         have bg5 := bg.nx hnx5
         have hx5 := hxr.trans hnx5
         have hS5 := hSl.nx hnx5
         clear x0 x1 x2 x3
         obtain ⟨x0, x1, x2, x3⟩ := bg5.d4
         cases hf : segB n0 n1 n2 (chOf ns k) with
         | false =>
           have HF := qh (rdG_no HN.out (by unfold g4B; rw [HQ4.out]; exact hf))
           clear hf
           obtain ⟨c0, c1, c2, c3⟩ := b5.d4
           have f0 := b5.frozen 0
           have f1 := b5.frozen 1
           have f2 := b5.frozen 2
           have f3 := b5.frozen 3
           go_wp2
           have q := (put4_box b5 (ii 0) (ii 0) (ii 0) (nsl))
           have hnf := (put4_nx hx5 (Nat.le_refl w.heap.size) (ii 0) (ii 0) (ii 0) (nsl))
           change bodyPost _ _ _ _ _ (put4 w5 w.heap.size (ii 0) (ii 0) (ii 0) (nsl))
           change Box (put4 w5 w.heap.size (ii 0) (ii 0) (ii 0) (nsl)) _ _ _ at q
           generalize put4 w5 w.heap.size (ii 0) (ii 0) (ii 0) (nsl) = Wf at *
           obtain ⟨g0, g1, g2, g3⟩ := q.d4
           exact bodyPost_ret (v := .tuple #[.agg #[ii 0, ii 0, ii 0, nsl], .bool false]) (by simp [results, Tryz.results197, go_sem, g0, g1, g2, g3]) rfl (RetST.no HF.out hnf)
           | true =>
           have HF := qh (rdG_yes HN.out HOL.out (by unfold g4B; rw [HQ4.out]; exact hf))
           clear hf
           obtain ⟨c0, c1, c2, c3⟩ := b5.d4
           have f0 := b5.frozen 0
           have f1 := b5.frozen 1
           have f2 := b5.frozen 2
           have f3 := b5.frozen 3
           go_wp2
           have q := (put4_box b5 (ii n0) (ii n1) (ii n2) (.slice A2 (chOf ns k).length cp9))
           have hnf := (put4_nx hx5 (Nat.le_refl w.heap.size) (ii n0) (ii n1) (ii n2) (.slice A2 (chOf ns k).length cp9))
           have hsf := (hS5.put4 hgl (ii n0) (ii n1) (ii n2) (.slice A2 (chOf ns k).length cp9))
           change Sl (put4 w5 w.heap.size (ii n0) (ii n1) (ii n2) (.slice A2 (chOf ns k).length cp9)) _ _ _ _ _ at hsf
           change bodyPost _ _ _ _ _ (put4 w5 w.heap.size (ii n0) (ii n1) (ii n2) (.slice A2 (chOf ns k).length cp9))
           change Box (put4 w5 w.heap.size (ii n0) (ii n1) (ii n2) (.slice A2 (chOf ns k).length cp9)) _ _ _ at q
           generalize put4 w5 w.heap.size (ii n0) (ii n1) (ii n2) (.slice A2 (chOf ns k).length cp9) = Wf at *
           obtain ⟨g0, g1, g2, g3⟩ := q.d4
           exact bodyPost_ret (v := .tuple #[.agg #[ii n0, ii n1, ii n2, .slice A2 (chOf ns k).length cp9], .bool true]) (by simp [results, Tryz.results197, go_sem, g0, g1, g2, g3]) rfl (RetST.yes HF.out HQ4.out (hsf.low (by omega)) hnf)
end Go.Proofs.YtieoiailjjnnoaaGreatDoor
