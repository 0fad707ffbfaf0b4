/-
  Texts of the proof, in their order.
  Conditions: those of each.
-/
import Derived.Test.YtieoiailjjnnoaaGreatDoorMs13
namespace Go.Proofs.YtieoiailjjnnoaaGreatDoor
set_option linter.unusedVariables false
set_option maxRecDepth 100000
set_option maxHeartbeats 16000000
open Go.RowKit
def gCs (g : SgR) : List Value := [ii g.f, ii g.t, ii g.m, .slice g.A g.cs.length g.c]
def gVs (gs : List SgR) : List Value := gs.flatMap gCs
theorem gVs_len : ∀ gs : List SgR, (gVs gs).length = gs.length * 4
 | [] => rfl
 | g :: gs => by
   show (gCs g ++ gVs gs).length = _
   rw [List.length_append, gVs_len gs, List.length_cons]
   unfold gCs
   simp only [List.length_cons, List.length_nil]; omega
theorem gVs_get : ∀ (gs : List SgR) (i : Nat), i < gs.length * 4 → (gVs gs)[i]? = some (sgAt gs i)
 | [], i, h => by simp at h
 | g :: gs, i, h => by
   show (gCs g ++ gVs gs)[i]? = _
   by_cases hi : i < 4
   · rw [List.getElem?_append_left (by simpa [gCs] using hi)]
     match i, hi with
     | 0, _ => rfl
     | 1, _ => rfl
     | 2, _ => rfl
     | 3, _ => rfl
   · rw [List.getElem?_append_right (by simpa [gCs] using hi)]
     show (gVs gs)[i - 4]? = _
     rw [gVs_get gs (i - 4) (by simp at h; omega)]
     have e1 : (i - 4) % 4 = i % 4 := by omega
     have e2 : i / 4 = (i - 4) / 4 + 1 := by omega
     unfold sgAt
     rw [e1, e2, List.getD_cons_succ]
def ChO (w : World) (B : Nat) (gs : List SgR) : Prop := ∀ k, k < gs.length → Sl w B (gs.getD k sgZ).A 192 ((gs.getD k sgZ).cs.length * 3) (chAt (gs.getD k sgZ).cs)
theorem ChO.nx {w w' : World} {B : Nat} {gs : List SgR} (h : ChO w B gs) (hb : Nx w w') : ChO w' B gs := fun k hk => (h k hk).nx hb
theorem Sl.rgO {w w' : World} {lo a b : Nat} {A : Option Addr} {t : TypeId} {m : Nat} {f : Nat → Value} (h : Sl w lo A t m f) (hb : Rg a b w w') (hd : b ≤ lo) : Sl w' lo A t m f := fun hm => by
 obtain ⟨g, e, hl, ho⟩ := h hm; exact ⟨g, e, hl, ho.rg hb (.inr (by omega))⟩
theorem ChO.rg {w w' : World} {B a b : Nat} {gs : List SgR} (h : ChO w B gs) (hb : Rg a b w w') (hd : b ≤ B) : ChO w' B gs := fun k hk => (h k hk).rgO hb hd
theorem ChO.snoc {w : World} {B : Nat} {gs : List SgR} {g : SgR} (h : ChO w B gs) (hg : Sl w B g.A 192 (g.cs.length * 3) (chAt g.cs)) : ChO w B (gs ++ [g]) := fun k hk => by
 rw [List.length_append] at hk
 simp only [List.length_cons, List.length_nil] at hk
 by_cases e : k < gs.length
 · rw [getD_pre gs [g] e]; exact h k e
 · obtain rfl : k = gs.length := by omega
   rw [getD_app]; exact hg
def RowS (w : World) (B : Nat) (v : Value) (gs : List SgR) : Prop := w.ownsRow B 122 4 v gs.length (gVs gs)
theorem RowS.new (w : World) {B : Nat} (hB : B ≤ w.heap.size) : RowS (w.alloc (.cells #[] 122)) B (.slice (some ⟨w.heap.size, 0, none⟩) 0 0) [] :=
 ⟨rfl, .inr ⟨_, 0, #[], rfl, hB, heap_alloc_new w _, by simp, by unfold maxLen; omega, rfl, rfl⟩⟩
theorem RowS.sl {w : World} {B : Nat} {v : Value} {gs : List SgR} (h : RowS w B v gs) : ∃ A c, v = .slice A gs.length c ∧ Sl w B A 122 (gs.length * 4) (sgAt gs) := by
 rcases h.2 with ⟨rfl, h0⟩ | ⟨g, cap, cur, rfl, hb, hg, hnc, _, hcs, htk⟩
 · exact ⟨none, 0, by rw [h0], fun hn => by omega⟩
 · refine ⟨_, cap, rfl, Sl.own ⟨cur, hg, by have := Nat.mul_le_mul_right 4 hnc; omega, fun i hi => ?_⟩ hb⟩
   have h1 : (cur.toList.take (gs.length * 4))[i]? = some (sgAt gs i) := by rw [htk]; exact gVs_get gs i hi
   rw [List.getElem?_take_of_lt hi] at h1
   simpa using h1
theorem RowS.nx {w w' : World} {B : Nat} {v : Value} {gs : List SgR} (h : RowS w B v gs) (hb : Nx w w') : RowS w' B v gs := by
 refine World.ownsRow.kept (row := none) h ⟨hb.os, hb.tape, hb.output, hb.size, fun i hi _ => hb.block i hi⟩ ?_
 cases hv : v.ownBlock with
 | none => exact .inl rfl
 | some g => exact .inr (by simp)
theorem RowS.rg {w w' : World} {B lo hi : Nat} {v : Value} {gs : List SgR} (h : RowS w B v gs) (hr : Rg lo hi w w') (hh : hi ≤ B) : RowS w' B v gs := by
 rcases h.2 with ⟨rfl, h0⟩ | ⟨g, cap, cur, rfl, hb, hg, r⟩
 · exact ⟨h.1, .inl ⟨rfl, h0⟩⟩
 · have hlt := (World.ownsRow.lt h g rfl).2
   exact ⟨h.1, .inr ⟨g, cap, cur, rfl, hb, (hr.block g hlt (.inr (by omega))).trans hg, r⟩⟩
theorem RowS.ne {w : World} {B g : Nat} {v : Value} {gs : List SgR} {t : TypeId} {m : Nat} {f : Nat → Value} (h : RowS w B v gs) (hb : Own w g t m f) (ht : t ≠ 122) : some g ≠ v.ownBlock := by
 intro he
 rcases h.2 with ⟨rfl, _⟩ | ⟨g', cap, cur, rfl, _, hg, _⟩
 · simp [Value.ownBlock] at he
 · obtain rfl : g = g' := by simpa [Value.ownBlock] using he
   obtain ⟨cs, hb, _⟩ := hb
   rw [hg] at hb
   injection hb with hb
   injection hb with _ hb
   exact ht hb.symm
structure GrewS (B : Nat) (w w' : World) : Prop where
 nx : ∀ a, Nx a w → a.heap.size ≤ B → Nx a w'
 rg : ∀ lo hi a, Rg lo hi a w → a.heap.size ≤ B → Rg lo hi a w'
 own : ∀ g t m f, t ≠ 122 → Own w g t m f → Own w' g t m f
 box : ∀ g t xs, t ≠ 122 → Box w g t xs → Box w' g t xs
 size : w.heap.size ≤ w'.heap.size
 low : Below B w w'
theorem GrewS.sl {B : Nat} {w w' : World} (h : GrewS B w w') {lo : Nat} {A : Option Addr} {t : TypeId} {m : Nat} {f : Nat → Value} (hs : Sl w lo A t m f) (ht : t ≠ 122) : Sl w' lo A t m f := fun hm => by
 obtain ⟨g, e, hl, ho⟩ := hs hm
 exact ⟨g, e, hl, h.own g t m f ht ho⟩
theorem GrewS.cho {B B' : Nat} {w w' : World} (h : GrewS B w w') {gs : List SgR} (hs : ChO w B' gs) : ChO w' B' gs := fun k hk => h.sl (hs k hk) (by decide)
theorem RowS.mk {w : World} {B g cap : Nat} {gs : List SgR} {cur : Array Value} (hB : B ≤ g) (hb : Box w g 122 cur) (h1 : gs.length ≤ cap) (h2 : cap ≤ maxLen) (h3 : cur.size = cap * 4) (h : ∀ i, i < gs.length * 4 → cur[i]? = some (sgAt gs i)) : RowS w B (.slice (some ⟨g, 0, none⟩) gs.length cap) gs := by
 refine ⟨gVs_len gs, .inr ⟨g, cap, cur, rfl, hB, hb, h1, h2, h3, ?_⟩⟩
 refine List.ext_getElem? fun i => ?_
 by_cases hi : i < gs.length * 4
 · rw [List.getElem?_take_of_lt hi, gVs_get gs i hi]
   simpa using h i hi
 · rw [List.getElem?_eq_none (by rw [List.length_take]; omega), List.getElem?_eq_none (by rw [gVs_len]; omega)]
theorem set4_at (cur : Array Value) (a : Nat) (v0 v1 v2 v3 : Value) (h : a + 4 ≤ cur.size) :
 ((((cur.setIfInBounds a v0).setIfInBounds (a + 1) v1).setIfInBounds (a + 2) v2).setIfInBounds (a + 3) v3)[a]? = some v0 ∧ ((((cur.setIfInBounds a v0).setIfInBounds (a + 1) v1).setIfInBounds (a + 2) v2).setIfInBounds (a + 3) v3)[a + 1]? = some v1
 ∧ ((((cur.setIfInBounds a v0).setIfInBounds (a + 1) v1).setIfInBounds (a + 2) v2).setIfInBounds (a + 3) v3)[a + 2]? = some v2 ∧ ((((cur.setIfInBounds a v0).setIfInBounds (a + 1) v1).setIfInBounds (a + 2) v2).setIfInBounds (a + 3) v3)[a + 3]? = some v3 := by
 refine ⟨?_, ?_, ?_, ?_⟩
 · rw [Array.getElem?_setIfInBounds_ne (by omega), Array.getElem?_setIfInBounds_ne (by omega), Array.getElem?_setIfInBounds_ne (by omega), Array.getElem?_setIfInBounds, if_pos rfl, if_pos (by omega)]
 · rw [Array.getElem?_setIfInBounds_ne (by omega), Array.getElem?_setIfInBounds_ne (by omega), Array.getElem?_setIfInBounds, if_pos rfl, if_pos (by rw [Array.size_setIfInBounds]; omega)]
 · rw [Array.getElem?_setIfInBounds_ne (by omega), Array.getElem?_setIfInBounds, if_pos rfl, if_pos (by rw [Array.size_setIfInBounds, Array.size_setIfInBounds]; omega)]
 · rw [Array.getElem?_setIfInBounds, if_pos rfl, if_pos (by rw [Array.size_setIfInBounds, Array.size_setIfInBounds, Array.size_setIfInBounds]; omega)]
def putG (w : World) (g k : Nat) (x : SgR) : World := (((w.setCell ⟨g, k * 4, none⟩ (ii x.f)).setCell ⟨g, k * 4 + 1, none⟩ (ii x.t)).setCell ⟨g, k * 4 + 2, none⟩ (ii x.m)).setCell ⟨g, k * 4 + 3, none⟩ (.slice x.A x.cs.length x.c)
theorem RowS.put {w : World} {B g cap : Nat} {gs : List SgR} {y : SgR} (h : RowS w B (.slice (some ⟨g, 0, none⟩) (gs.length + 1) cap) (gs ++ [y])) (x : SgR) :
 RowS (putG w g gs.length x) B (.slice (some ⟨g, 0, none⟩) (gs.length + 1) cap) (gs ++ [x]) ∧ GrewS B w (putG w g gs.length x) := by
 have hl1 : ∀ z : SgR, (gs ++ [z]).length = gs.length + 1 := fun z => by simp
 rcases h.2 with ⟨he, _⟩ | ⟨g', cap', cur, he, hb, hg, hnc, hmx, hsz, htk⟩
 · cases he
 · injection he with e1 e2 e3
   injection e1 with e1
   injection e1 with e1
   subst e1 e3
   rw [hl1] at hnc htk
   have hcell : ∀ i, i < (gs.length + 1) * 4 → cur[i]? = some (sgAt (gs ++ [y]) i) := fun i hi => by
    have h1 : (cur.toList.take ((gs.length + 1) * 4))[i]? = some (sgAt (gs ++ [y]) i) := by rw [htk]; exact gVs_get _ i (by rw [hl1]; exact hi)
    rw [List.getElem?_take_of_lt hi] at h1
    simpa using h1
   have hbox : Box w g 122 cur := hg
   have hb4 := (((hbox.set (gs.length * 4) (ii x.f)).set (gs.length * 4 + 1) (ii x.t)).set (gs.length * 4 + 2) (ii x.m)).set (gs.length * 4 + 3) (.slice x.A x.cs.length x.c)
   have hg4 : (gs ++ [x]).getD gs.length sgZ = x := getD_app gs x
   have hlen : gs.length * 4 + 4 ≤ cur.size := by rw [hsz]; have := Nat.mul_le_mul_right 4 hnc; omega
   obtain ⟨t0, t1, t2, t3⟩ := set4_at cur (gs.length * 4) (ii x.f) (ii x.t) (ii x.m) (.slice x.A x.cs.length x.c) hlen
   refine ⟨?_, ?_⟩
   · have := RowS.mk (gs := gs ++ [x]) (cap := cap) hb hb4 (by rw [hl1]; exact hnc) hmx (by simp [hsz]) fun i hi => ?_
     · rw [hl1] at this; exact this
     · rw [hl1] at hi
       by_cases h3 : i = gs.length * 4 + 3
       · subst h3; rw [sgAt3, hg4]; exact t3
       · by_cases h2 : i = gs.length * 4 + 2
         · subst h2; rw [sgAt2, hg4]; exact t2
         · by_cases h1 : i = gs.length * 4 + 1
           · subst h1; rw [sgAt1, hg4]; exact t1
           · by_cases h0 : i = gs.length * 4
             · subst h0; rw [sgAt0, hg4]; exact t0
             · rw [sgAt_app gs [x] i (by omega), ← sgAt_app gs [y] i (by omega), ← hcell i (by omega)]
               rw [Array.getElem?_setIfInBounds_ne (by omega), Array.getElem?_setIfInBounds_ne (by omega), Array.getElem?_setIfInBounds_ne (by omega), Array.getElem?_setIfInBounds_ne (by omega)]
   · have hblk : ∀ k, k ≠ g → (putG w g gs.length x).heap[k]? = w.heap[k]? := fun k hk => by
      unfold putG
      rw [Below.heap_setCell _ _ _ _ hk, Below.heap_setCell _ _ _ _ hk, Below.heap_setCell _ _ _ _ hk, Below.heap_setCell _ _ _ _ hk]
     have hsize : w.heap.size ≤ (putG w g gs.length x).heap.size := by unfold putG; simp [World.setCell]
     have hlow : Below B w (putG w g gs.length x) := ⟨rfl, rfl, rfl, hsize, fun k hk => hblk k (by omega)⟩
     refine ⟨fun a ha haB => ⟨ha.os, ha.tape, ha.output, ntr ha.size hsize, fun k hk => (hblk k (by omega)).trans (ha.block k hk)⟩,
      fun lo hi a ha haB => ⟨ha.os, ha.tape, ha.output, ntr ha.size hsize, fun k hk hr => (hblk k (by omega)).trans (ha.block k hk hr)⟩,
      fun g2 t m f ht ho => ho.of_block (hblk g2 fun e => ?_), fun g2 t xs ht hbx => (hblk g2 fun e => ?_).trans hbx, hsize, hlow⟩
     · subst e
       obtain ⟨cs, ho, _⟩ := ho
       rw [hg] at ho
       injection ho with ho
       injection ho with _ ho
       exact ht ho.symm
     · subst e
       unfold Box at hbx
       rw [hg] at hbx
       injection hbx with hbx
       injection hbx with _ hbx
       exact ht hbx.symm
def CI (w : World) (g B : Nat) (A : Option Addr) (x : List Int) : Prop := Ins w g A x ∨ SlI w B A x
section
variable {w w' : World} {g B : Nat} {A : Option Addr} {x : List Int}
theorem CI.nx (h : CI w g B A x) (hb : Nx w w') (hg : g ≤ w.heap.size) : CI w' g B A x := by
 rcases h with h | h
 · exact .inl (h.below hb hg)
 · exact .inr (Sl.nx h hb)
theorem CI.rg (h : CI w g B A x) (hb : Rg g (g + 1) w w') (hg : g ≤ w.heap.size) (hB : g + 1 ≤ B) : CI w' g B A x := by
 rcases h with h | h
 · exact .inl (h.below (hb.below hg) nle)
 · exact .inr (Sl.rgO h hb hB)
theorem CI.grew (h : CI w g B A x) (hb : GrewS B w w') (hB : g ≤ B) : CI w' g B A x := by
 rcases h with h | h
 · exact .inl (h.below hb.low hB)
 · exact .inr (hb.sl h (by decide))
theorem CI.ins (h : CI w g B A x) (hg : g ≤ w.heap.size) : Ins w w.heap.size A x := by
 rcases h with h | h
 · exact h.more hg
 · exact Sl.row h
end
theorem chanceR_c (m g : Nat) (A : Option Addr) (n c k B : Nat) (ys : List Nat) (w : World) (hm : 2 ≤ m) (hm2 : m ≤ 256) (hb : SrcR w g A n c k) (h : U8s w B A n ys) (hB : B ≤ g) (hn : n ≤ 1048576) (hk : k + 3 ≤ 1048576) :
 Calls Tryz.prog 98 #[.pointer (some ⟨g, 0, none⟩), ii m] w fun e w' => ∃ q : Bool, e = .returned (.bool q) ∧ SrcR w' g A n c (k + 3) ∧ Rg g (g + 1) w w' := by
 obtain ⟨a, sd, h1, h2, h3⟩ := hb
 obtain ⟨⟨b, a', sd'⟩, HP⟩ : ∃ x, byteP ys a sd = x := ⟨_, rfl⟩
 obtain ⟨k1, k2, k3⟩ := byteP_lt h.2.1 h2 HP
 exact (chance_c m g A n c a sd B ys b a' sd' w hm hm2 h3 h hB hn (by omega) h2 HP).mono fun e w' ⟨he, hs, hr⟩ => ⟨_, he, ⟨a', sd', by omega, k3, hs⟩, hr⟩
structure Cst (g : Nat) (A : Option Addr) (n c k0 : Nat) (w : World) (base : Nat) (c0 : List Int) (cnt tm : Nat) (gs : List SgR) (Ac : Option Addr) (x : List Int) (u : Value) (wr : World) : Prop where
 tm_ : tm ≤ 20 + 9 * cnt
 con : CI wr g w.heap.size Ac x
 row : RowS wr w.heap.size u gs
 cho : ChO wr w.heap.size gs
 chn : ChI (base : Int) c0 gs
 end_ : atK (base : Int) gs gs.length = ((base + cnt : Nat) : Int)
 tme : tmK gs gs.length ≤ (tm : Int)
 cte : ctK c0 gs gs.length = x
 len : gs.length ≤ cnt
 src : SrcR wr g A n c (k0 + 6 + 12 * cnt)
 rg : Rg g (g + 1) w wr
abbrev Cvs (base : Nat) (c0 : List Int) (cnt tm : Nat) (gs : List SgR) (x : List Int) : Prop :=
 tm ≤ 20 + 9 * cnt ∧ ChI (base : Int) c0 gs ∧ atK (base : Int) gs gs.length = ((base + cnt : Nat) : Int) ∧ tmK gs gs.length ≤ (tm : Int) ∧ ctK c0 gs gs.length = x ∧ gs.length ≤ cnt
theorem Cvs.add {base : Nat} {c0 : List Int} {cnt tm : Nat} {gs : List SgR} {x : List Int} (h : Cvs base c0 cnt tm gs x) (hcx : contB x = true) {q dt tm2 b v : Nat} {o : Int} (A6 : Option Addr) (c6 : Nat) (hq : base + cnt = q) (ht : tm + dt = tm2) (hdt : dt < 9) (hq9 : q ≤ 40) (htm2 : tm2 ≤ 300) (hb : b < 8) (hv : v < 90) (ho : x.getD b 0 = o) :
 Cvs base c0 (cnt + 1) tm2 (gs ++ [⟨(q : Int), (q : Int) + 1, (tm2 : Int), A6, c6, [((b : Int), (v : Int), o)]⟩]) (app pN x [((b : Int), (v : Int), o)]) := by
 obtain ⟨h1, h2, h3, h4, h5, h6⟩ := h
 have hov := (contB_yes hcx).2 b hb
 rw [ho] at hov
 have L : Lk (base : Int) c0 gs gs.length ⟨(q : Int), (q : Int) + 1, (tm2 : Int), A6, c6, [((b : Int), (v : Int), o)]⟩ := ⟨segB_mk (by show (0 : Int) ≤ (q : Int); omega) (by show (q : Int) < (q : Int) + 1; omega) (by show (q : Int) + 1 ≤ 999999; omega) (inB_mk (by show (0 : Int) ≤ (tm2 : Int); omega) (by show (tm2 : Int) ≤ 999999; omega)) (ch_one (chB_mk (by omega) (by omega) (by omega) (by omega) hov.1 hov.2)),
  by show (q : Int) = _; rw [h3, hq], by show _ ≤ (tm2 : Int); omega, by rw [h5, ← ho]; exact fits_one x b v⟩
 obtain ⟨e1, e2, e3⟩ := end_snoc (base : Int) c0 gs ⟨(q : Int), (q : Int) + 1, (tm2 : Int), A6, c6, [((b : Int), (v : Int), o)]⟩
 have hl : ∀ z : SgR, (gs ++ [z]).length = gs.length + 1 := fun z => by simp
 refine ⟨by omega, h2.snoc L, ?_, ?_, ?_, by rw [hl]; omega⟩
 · rw [hl, e1]; show (q : Int) + 1 = _; omega
 · rw [hl, e2]; show (tm2 : Int) ≤ _; omega
 · rw [hl, e3, h5]
theorem Cst.of {g : Nat} {A : Option Addr} {n c k0 : Nat} {w : World} {base : Nat} {c0 : List Int} {cnt tm : Nat} {gs : List SgR} {Ac : Option Addr} {x : List Int} {u : Value} {wr : World} (V : Cvs base c0 cnt tm gs x) (con : CI wr g w.heap.size Ac x) (row : RowS wr w.heap.size u gs) (cho : ChO wr w.heap.size gs) (src : SrcR wr g A n c (k0 + 6 + 12 * cnt)) (rg : Rg g (g + 1) w wr) :
 Cst g A n c k0 w base c0 cnt tm gs Ac x u wr := ⟨V.1, con, row, cho, V.2.1, V.2.2.1, V.2.2.2.1, V.2.2.2.2.1, V.2.2.2.2.2, src, rg⟩
section
variable {w w' : World}
theorem SrcR.farU {g n c k : Nat} {A : Option Addr} (h : SrcR w g A n c k) {p : Addr} (hp : g ≠ p.block) (u : Value) : SrcR (w.setCell p u) g A n c k := by
 obtain ⟨a, sd, h1, h2, h3⟩ := h
 unfold Src at h3
 exact ⟨a, sd, h1, h2, h3.far hp u⟩
theorem SrcR.grew {t : TypeId} {B' g n c k : Nat} {A : Option Addr} (h : SrcR w g A n c k) (hg : GrewT t B' w w') (ht : t ≠ 132) : SrcR w' g A n c k := by
 obtain ⟨a, sd, h1, h2, h3⟩ := h
 unfold Src at h3
 exact ⟨a, sd, h1, h2, hg.box _ _ _ (fun e => ht e.symm) h3⟩
end
end Go.Proofs.YtieoiailjjnnoaaGreatDoor
