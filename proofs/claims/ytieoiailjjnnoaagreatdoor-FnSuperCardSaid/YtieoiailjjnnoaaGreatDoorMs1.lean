/-
  Texts of the proof, in their order.
  Conditions: those of each.
-/
import Derived.Test.YtieoiailjjnnoaaGreatDoorMs0
import Derived.IntWalk
import Derived.Lib.SmallJoins
import Derived.ChangeSame
import Derived.Deep.Fields
import Derived.Deep.Slices
import Derived.Deep.Strs
import Derived.StillTailTactics
import Derived.Deep.QuietTactic
import Derived.BigQuiet
import Derived.Deep.RegionHeld
import Derived.Outline
namespace Go.Proofs.YtieoiailjjnnoaaGreatDoor
set_option linter.unusedVariables false
set_option maxRecDepth 100000
set_option maxHeartbeats 16000000
open Go.RowKit
inductive Pl where
 | e
 | t (k : Nat) (r : Pl)
 | c (k : Nat) (r : Pl)
 | b (j : Nat) (r1 : Pl) (k : Nat) (r2 : Pl)
 | d (i : Nat) (r0 : Pl) (j : Nat) (r1 : Pl) (k : Nat) (r2 : Pl)
inductive Ps where
 | e
 | t (o : Oper) (r : Ps)
 | c (o : Oper) (r : Ps)
 | b (oj : Oper) (r1 : Ps) (ok : Oper) (r2 : Ps)
 | d (oi : Oper) (r0 : Ps) (oj : Oper) (r1 : Ps) (ok : Oper) (r2 : Ps)
def noOp : Oper := { dst := none, op := Op.move (Operand.const undef), type := 0, pos := "", after := #[], guard := none }
def psOf (l : List Oper) : Pl → Ps
 | .e => .e
 | .t k r => .t (l.getD k noOp) (psOf l r)
 | .c k r => .c (l.getD k noOp) (psOf l r)
 | .b j r1 k r2 => .b (l.getD j noOp) (psOf l r1) (l.getD k noOp) (psOf l r2)
 | .d i r0 j r1 k r2 => .d (l.getD i noOp) (psOf l r0) (l.getD j noOp) (psOf l r1) (l.getD k noOp) (psOf l r2)
section
variable {P : Program} {ops : Array Oper} {Q : Exit → Act → World → Prop} {S : World → Prop}
def CallStep (P : Program) (ops : Array Oper) (Q : Exit → Act → World → Prop) (S : World → Prop) (o : Oper) (R : Act → World → Prop) (a : Act) (w : World) : Prop :=
 Region.wanted o (yielded ops a.tmps) = true ∧ ∀ K : Act → World → Prop, Hid (∀ a' w', S w' → R a' w' → K a' w') → o.wp P a w K Q
def HP (P : Program) (ops : Array Oper) (Q : Exit → Act → World → Prop) (S : World → Prop) : Ps → Act → World → Prop
 | .e, a, w => Q .normal a w
 | .t o r, a, w => ∃ v, YieldsIf P ops S o v a ∧ HP P ops Q S r (a.put o.dst v) w
 | .c o r, a, w => CallStep P ops Q S o (HP P ops Q S r) a w
 | .b oj r1 ok r2, a, w => CallStep P ops Q S oj (HP P ops Q S r1) a w ∧ CallStep P ops Q S ok (HP P ops Q S r2) a w
 | .d oi r0 oj r1 ok r2, a, w => CallStep P ops Q S oi (HP P ops Q S r0) a w ∧ CallStep P ops Q S oj (HP P ops Q S r1) a w ∧ CallStep P ops Q S ok (HP P ops Q S r2) a w
def steps : Pl → Nat
 | .e => 0
 | .t _ r => steps r + 1
 | .c _ r => steps r + 1
 | .b _ r1 _ _ => steps r1 + 1
 | .d _ r0 _ _ _ _ => steps r0 + 1
def planB (md : Region.Mode) (ops : Array Oper) : Pl → Array Bool → Bool
 | .e, listed => Region.ready md ops listed == []
 | .t k r, listed => decide (k < ops.size) && (Region.ready md ops listed).contains k && Region.free md ops listed k && planB md ops r (listed.setIfInBounds k true)
 | .c k r, listed => decide (k < ops.size) && (Region.ready md ops listed == [k]) && planB md ops r (listed.setIfInBounds k true)
 | .b j r1 k r2, listed => decide (j < ops.size) && decide (k < ops.size) && (Region.ready md ops listed == [j, k]) && decide (steps r2 = steps r1) && planB md ops r1 (listed.setIfInBounds j true) && planB md ops r2 (listed.setIfInBounds k true)
 | .d i r0 j r1 k r2, listed => decide (i < ops.size) && decide (j < ops.size) && decide (k < ops.size) && (Region.ready md ops listed == [i, j, k]) && decide (steps r1 = steps r0) && decide (steps r2 = steps r0) && planB md ops r0 (listed.setIfInBounds i true) && planB md ops r1 (listed.setIfInBounds j true) && planB md ops r2 (listed.setIfInBounds k true)
theorem HP.take {o : Oper} {r : Ps} {a : Act} {w : World} {v : Value} (hw : Region.wanted o (yielded ops a.tmps) = true) (h : ∀ w, S w → (execOp a.eval o).run P w = .ok (.value v) w)
 (hr : HP P ops Q S r (a.put o.dst v) w) : HP P ops Q S (.t o r) a w := ⟨v, .inl ⟨hw, h⟩, hr⟩
theorem HP.skip {o : Oper} {r : Ps} {a : Act} {w : World} (hw : Region.wanted o (yielded ops a.tmps) = false) (hr : HP P ops Q S r (a.put o.dst undef) w) : HP P ops Q S (.t o r) a w := ⟨undef, .inr ⟨hw, rfl⟩, hr⟩
theorem HP.tk {o : Oper} {r : Ps} {a : Act} {w : World} {v : Value} (hr : HP P ops Q S r (a.put o.dst v) w) (hw : Region.wanted o (yielded ops a.tmps) = true := by rfl)
 (h : ∀ w, S w → (execOp a.eval o).run P w = .ok (.value v) w := by (intro w hSw; (try dsimp only at hSw); go_simp; try with_reducible rfl)) : HP P ops Q S (.t o r) a w := HP.take hw h hr
theorem HP.sk {o : Oper} {r : Ps} {a : Act} {w : World} (hr : HP P ops Q S r (a.put o.dst undef) w) (hw : Region.wanted o (yielded ops a.tmps) = false := by rfl) : HP P ops Q S (.t o r) a w := HP.skip hw hr
theorem HP.call {o : Oper} {r : Ps} {a : Act} {w : World} (h : CallStep P ops Q S o (HP P ops Q S r) a w) : HP P ops Q S (.c o r) a w := h
theorem HP.both {oj ok : Oper} {r1 r2 : Ps} {a : Act} {w : World} (h1 : CallStep P ops Q S oj (HP P ops Q S r1) a w) (h2 : CallStep P ops Q S ok (HP P ops Q S r2) a w) : HP P ops Q S (.b oj r1 ok r2) a w := ⟨h1, h2⟩
theorem HP.three {oi oj ok : Oper} {r0 r1 r2 : Ps} {a : Act} {w : World} (h0 : CallStep P ops Q S oi (HP P ops Q S r0) a w) (h1 : CallStep P ops Q S oj (HP P ops Q S r1) a w) (h2 : CallStep P ops Q S ok (HP P ops Q S r2) a w) : HP P ops Q S (.d oi r0 oj r1 ok r2) a w := ⟨h0, h1, h2⟩
theorem HP.done {a : Act} {w : World} (h : Q .normal a w) : HP P ops Q S .e a w := h
theorem CallStep.mk {o : Oper} {R : Act → World → Prop} {a : Act} {w : World} (hw : Region.wanted o (yielded ops a.tmps) = true)
 (h : ∀ K : Act → World → Prop, Hid (∀ a' w', S w' → R a' w' → K a' w') → o.wp P a w K Q) : CallStep P ops Q S o R a w := ⟨hw, h⟩
theorem cSt {o : Oper} {R : Act → World → Prop} {a : Act} {w : World} (h : ∀ K : Act → World → Prop, Hid (∀ a' w', S w' → R a' w' → K a' w') → o.wp P a w K Q) (hw : Region.wanted o (yielded ops a.tmps) = true := by rfl) : CallStep P ops Q S o R a w := ⟨hw, h⟩
theorem hPc {o : Oper} {r : Ps} {a : Act} {w : World} (h : ∀ K : Act → World → Prop, Hid (∀ a' w', S w' → HP P ops Q S r a' w' → K a' w') → o.wp P a w K Q) (hw : Region.wanted o (yielded ops a.tmps) = true := by rfl) : HP P ops Q S (.c o r) a w := ⟨hw, h⟩
theorem CallStep.op {k : Nat} {o : Oper} {R K : Act → World → Prop} {a : Act} {w : World} (h : CallStep P ops Q S o R a w) (h0 : ops[k]? = some o) (hK : ∀ a' w', S w' → R a' w' → K a' w') : wpOp P ops Q k K a w := by
 unfold wpOp
 simp only [h0, h.1, if_true]
 exact .inl (h.2 _ (qh hK))
theorem getD_op {l : List Oper} {k : Nat} (h : k < l.toArray.size) : l.toArray[k]? = some (l.getD k noOp) := by
 have h' : k < l.length := by simpa using h
 rw [List.getElem?_toArray, gdE, List.getElem?_eq_getElem h']; rfl
theorem HP.any {md : Region.Mode} {l : List Oper} (hs : Region.noSelect l.toArray = true) (hQ : ∀ c a d v w, Q (.panic c) (Act.put a d v) w → Q (.panic c) a w) :
 ∀ (ks : Pl) (listed : Array Bool) (a : Act) (w : World), planB md l.toArray ks listed = true → S w → HP P l.toArray Q S (psOf l ks) a w → wpAnyH P md l.toArray Q S (steps ks) listed a w
 | .e, listed, a, w, hB, _, h => wpAnyH_done (by simpa [planB] using hB) h _
 | .t k r, listed, a, w, hB, hS, h => by
   simp only [planB, Bool.and_eq_true, decide_eq_true_eq] at hB
   obtain ⟨⟨⟨hk, hr⟩, hf⟩, hB'⟩ := hB
   obtain ⟨v, hy, hK⟩ := h
   exact wpAnyH_take (getD_op hk) hs hf hr (fun c a w => hQ c a _ _ w) hy hS (HP.any hs hQ r _ _ w hB' hS hK)
 | .c k r, listed, a, w, hB, hS, h => by
   simp only [planB, Bool.and_eq_true, decide_eq_true_eq, beq_iff_eq] at hB
   obtain ⟨⟨hk, hr⟩, hB'⟩ := hB
   refine wpAnyH_all hr (by simp) fun i hi => ?_
   obtain rfl : i = k := by simpa using hi
   exact CallStep.op h (getD_op hk) fun a' w' hS' h' => ⟨hS', HP.any hs hQ r _ a' w' hB' hS' h'⟩
 | .b j r1 k r2, listed, a, w, hB, hS, h => by
   simp only [planB, Bool.and_eq_true, decide_eq_true_eq, beq_iff_eq] at hB
   obtain ⟨⟨⟨⟨⟨hj, hk⟩, hr⟩, hst⟩, hB1⟩, hB2⟩ := hB
   refine wpAnyH_all hr (by simp) fun i hi => ?_
   rcases (show i = j ∨ i = k by simpa using hi) with rfl | rfl
   · exact CallStep.op h.1 (getD_op hj) fun a' w' hS' h' => ⟨hS', HP.any hs hQ r1 _ a' w' hB1 hS' h'⟩
   · exact CallStep.op h.2 (getD_op hk) fun a' w' hS' h' => ⟨hS', by have := HP.any hs hQ r2 _ a' w' hB2 hS' h'; rw [hst] at this; exact this⟩
 | .d i r0 j r1 k r2, listed, a, w, hB, hS, h => by
   simp only [planB, Bool.and_eq_true, decide_eq_true_eq, beq_iff_eq] at hB
   obtain ⟨⟨⟨⟨⟨⟨⟨⟨hi, hj⟩, hk⟩, hr⟩, hst1⟩, hst2⟩, hB0⟩, hB1⟩, hB2⟩ := hB
   refine wpAnyH_all hr (by simp) fun x hx => ?_
   rcases (show x = i ∨ x = j ∨ x = k by simpa using hx) with rfl | rfl | rfl
   · exact CallStep.op h.1 (getD_op hi) fun a' w' hS' h' => ⟨hS', HP.any hs hQ r0 _ a' w' hB0 hS' h'⟩
   · exact CallStep.op h.2.1 (getD_op hj) fun a' w' hS' h' => ⟨hS', by have := HP.any hs hQ r1 _ a' w' hB1 hS' h'; rw [hst1] at this; exact this⟩
   · exact CallStep.op h.2.2 (getD_op hk) fun a' w' hS' h' => ⟨hS', by have := HP.any hs hQ r2 _ a' w' hB2 hS' h'; rw [hst2] at this; exact this⟩
theorem wp_region_plan {id : Nat} {a : Act} {w : World} {l : List Oper} (ks : Pl) (S : World → Prop) (hm : P.follows .mixedOrders = true) (hs : Region.noSelect l.toArray = true) (hl : l.length = steps ks)
 (hB : planB .any l.toArray ks (Array.replicate l.toArray.size false) = true) (hQ : ∀ c a d v w, Q (.panic c) (Act.put a d v) w → Q (.panic c) a w) (hS : S w.drew)
 (h : HP P l.toArray Q S (psOf l ks) a w.drew) : (Code.region id l.toArray true).wp P Q a w := by
 refine wp_region_held_drew (S := S) hm hS fun _ => ?_
 have := HP.any (md := .any) hs hQ ks (Array.replicate l.toArray.size false) a w.drew hB hS h
 have e : l.toArray.size = steps ks := by simpa using hl
 rw [e]
 rw [e] at this
 exact this
theorem wp_planA {id : Nat} {a : Act} {w : World} {l : List Oper} (ks : Pl) (S : World → Prop) (hS : S w.drew) (h : HP P l.toArray Q S (psOf l ks) a w.drew) (hm : P.follows .mixedOrders = true := by kernel_rfl) (hs : Region.noSelect l.toArray = true := by kernel_rfl) (hl : l.length = steps ks := by rfl)
 (hB : planB .any l.toArray ks (Array.replicate l.toArray.size false) = true := by kernel_rfl) (hQ : ∀ c a d v w, Q (.panic c) (Act.put a d v) w → Q (.panic c) a w := by exact (fun _ _ d _ _ h => by cases d <;> exact h)) : (Code.region id l.toArray true).wp P Q a w := wp_region_plan ks S hm hs hl hB hQ hS h
end


theorem cell_far (w : World) (p q : Addr) (v : Value) (h : q.block ≠ p.block) : (w.setCell p v).cell? q = w.cell? q := by
 unfold World.cell?
 rw [Below.heap_setCell w p v q.block h]
abbrev Sg4 := Int × Int × Int × List Chg
def RetSC (w : World) (q : Sg4) (cd : Int) (e : Ending) (w' : World) : Prop :=
 ∃ (A : Option Addr) (c : Nat), e = .returned (.tuple #[.agg #[ii q.1, ii q.2.1, ii q.2.2.1, .slice A q.2.2.2.length c], ii cd]) ∧ Sl w' w.heap.size A 192 (q.2.2.2.length * 3) (chAt q.2.2.2) ∧ Nx w w'
theorem segB_chs {f t m : Int} {cs : List Chg} (h : segB f t m cs = true) : chsB cs = true := by
 unfold segB at h
 simp only [Bool.and_eq_true] at h
 exact h.2
end Go.Proofs.YtieoiailjjnnoaaGreatDoor
namespace Go.Proofs.YtieoiailjjnnoaaGreatDoor
set_option linter.unusedVariables false
set_option maxRecDepth 100000
set_option maxHeartbeats 16000000
open Go.Joins Go.ChangeShapes Go.WideShapes Go.RowKit Go.Deep
section
variable {H : Type} {enc : TypeId × Value → H} {w : World} {base : Nat} {spare : Nat → Bool} {held : Bool}
end
section
variable {H : Type} {enc : TypeId × Value → H} {w : World} {base : Nat} {spare : Nat → Bool} {held : Bool}
end
end Go.Proofs.YtieoiailjjnnoaaGreatDoor
namespace Go.Proofs.YtieoiailjjnnoaaGreatDoor
set_option linter.unusedVariables false
set_option maxRecDepth 100000
set_option maxHeartbeats 16000000
open Go.RowKit
def enc : Option Chg → Chg
 | none => (-1, 0, 0)
 | some c => c



end Go.Proofs.YtieoiailjjnnoaaGreatDoor
namespace Go.Proofs.YtieoiailjjnnoaaGreatDoor
set_option linter.unusedVariables false
set_option maxRecDepth 100000
set_option maxHeartbeats 16000000
open Go.Joins Go.ChangeShapes Go.WideShapes Go.RowKit Go.Deep

end Go.Proofs.YtieoiailjjnnoaaGreatDoor
namespace Go.Proofs.YtieoiailjjnnoaaGreatDoor
set_option linter.unusedVariables false
set_option maxRecDepth 100000
set_option maxHeartbeats 16000000
open Go.RowKit



theorem RetSC.un {w w' : World} {q : Sg4} {cd cd' : Int} {e : Ending} {q0 q1 q2 : Int} {qs : List Chg} (h : RetSC w q cd e w') (hq : q = (q0, q1, q2, qs)) (hc : cd = cd') :
 ∃ (A : Option Addr) (c : Nat), e = .returned (.tuple #[.agg #[ii q0, ii q1, ii q2, .slice A qs.length c], ii cd']) ∧ Sl w' w.heap.size A 192 (qs.length * 3) (chAt qs) ∧ Nx w w' := by
 subst hq hc
 exact h
end Go.Proofs.YtieoiailjjnnoaaGreatDoor
namespace Go.Proofs.YtieoiailjjnnoaaGreatDoor
set_option linter.unusedVariables false
set_option maxRecDepth 100000
set_option maxHeartbeats 16000000
open Go.ChangeShapes Go.WideShapes Go.RowKit Go.Deep
def u8At (ys : List Nat) (i : Nat) : Value := .int .u8 ((ys.getD i 0 : Nat) : Int)
def U8s (w : World) (B : Nat) (A : Option Addr) (n : Nat) (ys : List Nat) : Prop := ys.length = n ∧ (∀ i, ys.getD i 0 < 256) ∧ Row w B A n (u8At ys)
section
variable {w w' : World} {B B' n : Nat} {A : Option Addr} {ys : List Nat}
theorem U8s.below (h : U8s w B A n ys) (hb : Below B' w w') (hB : B ≤ B') : U8s w' B A n ys := ⟨h.1, h.2.1, h.2.2.below hb hB⟩
theorem U8s.more (h : U8s w B A n ys) (hB : B ≤ B') : U8s w B' A n ys := ⟨h.1, h.2.1, h.2.2.more hB⟩
theorem U8s.rg {lo hi : Nat} (h : U8s w B A n ys) (hb : Rg lo hi w w') (hB : B ≤ lo) (hl : lo ≤ w.heap.size) : U8s w' B A n ys := h.below (hb.below hl) hB
theorem U8s.at_ {k : Nat} (h : U8s w B A n ys) (hk : k < n) : ∃ b off, A = some ⟨b, off, none⟩ ∧ b < B ∧ w.cell? ⟨b, off + k, none⟩ = some (.int .u8 ((ys.getD k 0 : Nat) : Int)) := by
 obtain ⟨b, off, e, hb, hc⟩ := h.2.2 (by omega)
 exact ⟨b, off, e, hb, hc k hk⟩
end
section
variable {w : World} {g : Nat} {t : TypeId} {v0 v1 v2 : Value}
theorem Box.d0 (h : Box w g t #[v0, v1, v2]) : w.cell? ⟨g, 0, none⟩ = some v0 := h.cell 0
theorem Box.d1 (h : Box w g t #[v0, v1, v2]) : w.cell? ⟨g, 1, none⟩ = some v1 := h.cell 1
theorem Box.d2 (h : Box w g t #[v0, v1, v2]) : w.cell? ⟨g, 2, none⟩ = some v2 := h.cell 2
theorem Box.put1 (h : Box w g t #[v0, v1, v2]) (u : Value) : Box (w.setCell ⟨g, 1, none⟩ u) g t #[v0, u, v2] := by
 unfold Box at h ⊢
 simp [World.setCell, Array.getElem?_modify, h]
theorem Box.put2 (h : Box w g t #[v0, v1, v2]) (u : Value) : Box (w.setCell ⟨g, 2, none⟩ u) g t #[v0, v1, u] := by
 unfold Box at h ⊢
 simp [World.setCell, Array.getElem?_modify, h]
end
def byteP (ys : List Nat) (a sd : Nat) : Nat × Nat × Nat :=
 if a + 1 ≤ ys.length then (ys.getD a 0, a + 1, (sd * 31 + ys.getD a 0 + 7) % 2147483648)
 else if 3000 < a + 1 then (0, a + 1, sd)
 else ((sd * 1103515245 + 12345) % 2147483648 / 65536 % 256, a + 1, (sd * 1103515245 + 12345) % 2147483648)
theorem byteP_lt {ys : List Nat} {a sd b a' sd' : Nat} (hy : ∀ i, ys.getD i 0 < 256) (hs : sd < 2147483648) (h : byteP ys a sd = (b, a', sd')) : b < 256 ∧ a' = a + 1 ∧ sd' < 2147483648 := by
 unfold byteP at h
 have := hy a
 split at h
 · cases h; omega
 · split at h <;> cases h <;> omega
def Src (w : World) (g : Nat) (A : Option Addr) (n c a sd : Nat) : Prop := Box w g 132 #[.slice A n c, ii a, ii sd]
theorem byte_c (g : Nat) (A : Option Addr) (n c a sd B : Nat) (ys : List Nat) (b a' sd' : Nat) (w : World) (hb : Src w g A n c a sd) (h : U8s w B A n ys) (hB : B ≤ g) (hn : n ≤ 1048576) (ha : a ≤ 1048576) (hs : sd < 2147483648)
 (HP : byteP ys a sd = (b, a', sd')) :
 Calls Tryz.prog 170 #[.pointer (some ⟨g, 0, none⟩)] w fun e w' => e = .returned (ii b) ∧ Src w' g A n c a' sd' ∧ Rg g (g + 1) w w' := by
 unfold Src at *
 have c0 := hb.d0
 have c1 := hb.d1
 have c2 := hb.d2
 have f1 := hb.frozen 1
 have f2 := hb.frozen 2
 have hr1 := (Rg.of_nx (lo := g) (hi := g + 1) (Nx.refl w)).setCell (p := ⟨g, 1, none⟩) nle (Nat.lt_succ_self _) (ii ((a : Int) + 1))
 have hbs := hb.put1 (ii ((a : Int) + 1))
 have h1 := h.rg hr1 hB (Nat.le_of_lt hb.lt)
 go_enter Tryz.func170, Tryz.ntmps170
 go_wp2
 generalize w.setCell ⟨g, 1, none⟩ (ii ((a : Int) + 1)) = w1 at *
 clear c0 c1 c2 f1 f2 h
 have c0 := hbs.d0
 have c1 := hbs.d1
 have c2 := hbs.d2
 have f2 := hbs.frozen 2
 by_cases hlt : a < n
 · obtain ⟨b0, off, rfl, hb0, hc⟩ := h1.at_ hlt
   unfold byteP at HP
   rw [if_pos (by rw [h1.1]; omega)] at HP
   have hy := h1.2.1 a
   generalize ys.getD a 0 = y at *
   cases HP
   go_quiet (fail)
   have hr2 : Rg g (g + 1) w (w1.drewN nq) := hr1.trans (Rg.of_nx ((Nx.refl w1).drewN nq))
   have hb2 : Box (w1.drewN nq) g 132 #[.slice (some ⟨b0, off, none⟩) n c, ii ((a : Int) + 1), ii sd] := hbs
   have hc2 : (w1.drewN nq).cell? ⟨b0, off + a, none⟩ = some (.int .u8 (b : Int)) := hc
   clear c0 c1 c2 f2 hc hbs hr1 h1
   generalize w1.drewN nq = w2 at *
   have c0 := hb2.d0
   have c1 := hb2.d1
   have c2 := hb2.d2
   have f2 := hb2.frozen 2
   go_wp2_with fail
   go_still_tail 23, (by kernel_rfl)
   have e1 : IntKind.i64.wrap (a : Int) = a := IntWalk.i64_in _ (by omega)
   have e2 : IntKind.i64.wrap ((sd : Int) * 31) = (sd : Int) * 31 := IntWalk.i64_in _ (by omega)
   have e0 : IntKind.i64.wrap (b : Int) = b := IntWalk.i64_in _ (by omega)
   have e3 : IntKind.i64.wrap ((sd : Int) * 31 + b) = (sd : Int) * 31 + b := IntWalk.i64_in _ (by omega)
   have e4 : IntKind.i64.wrap ((sd : Int) * 31 + b + 7) = (sd : Int) * 31 + b + 7 := IntWalk.i64_in _ (by omega)
   have e6 : ((sd : Int) * 31 + b + 7).tmod 2147483648 = ((sd : Int) * 31 + b + 7) % 2147483648 := Int.tmod_eq_emod_of_nonneg (by omega)
   repeat (first | still_step | rw [e1] | rw [e2])
   try refine wpStill_nil ?_
   change wpList _ _ _ _ _ w2.drew
   have e5 : ((sd : Int) * 31 + b + 7) % 2147483648 = (((sd * 31 + b + 7) % 2147483648 : Nat) : Int) := by omega
   first | rw [e6, e5] | rw [e5]
   have hr3 : Rg g (g + 1) w w2.drew := hr2.trans (Rg.of_nx (Nx.refl w2).drew)
   have hb3 : Box w2.drew g 132 #[.slice (some ⟨b0, off, none⟩) n c, ii ((a : Int) + 1), ii sd] := hb2
   have hc3 : w2.drew.cell? ⟨b0, off + a, none⟩ = some (.int .u8 (b : Int)) := hc2
   clear c0 c1 c2 f2 hc2 hb2 hr2 e0 e2 e3 e4 e5 e6
   generalize w2.drew = w3 at *
   have c2 := hb3.d2
   have f2 := hb3.frozen 2
   generalize hs' : (sd * 31 + b + 7) % 2147483648 = s'
   have Hs := qh hs'
   clear hs'
   have hb4 := hb3.put2 (ii (s' : Int))
   have hc4 : (w3.setCell ⟨g, 2, none⟩ (ii (s' : Int))).cell? ⟨b0, off + a, none⟩ = some (.int .u8 (b : Int)) := by rw [World.cell?_setCell_far _ _ _ _ (by simp; omega)]; exact hc3
   have hr4 := hr3.setCell (p := ⟨g, 2, none⟩) nle (Nat.lt_succ_self _) (ii (s' : Int))
   go_wp2_with fail
   clear c2 f2 hc3 hb3 hr3
   generalize w3.setCell ⟨g, 2, none⟩ (ii (s' : Int)) = w4 at *
   have c0 := hb4.d0
   have c1 := hb4.d1
   go_quiet (fail)
   go_wp2
   go_ret
   refine ⟨rfl, ?_, hr4.trans (Rg.of_nx ((Nx.refl w4).drewN nq))⟩
   rw [Hs.out]
   exact hb4
 · unfold byteP at HP
   rw [if_neg (by rw [h1.1]; omega)] at HP
   by_cases h3 : 3000 < a + 1
   · rw [if_pos h3] at HP
     cases HP
     have h3' : decide ((3000 : Int) < (a : Int) + 1) = true := by simp; omega
     clear h3
     go_quiet (fail)
     go_wp2
     go_ret
     exact ⟨rfl, hbs, hr1.trans (Rg.of_nx ((Nx.refl w1).drewN nq))⟩
   · rw [if_neg h3] at HP
     have H3 := (Prod.mk.inj (Prod.mk.inj HP).2).2
     have H2 := (Prod.mk.inj (Prod.mk.inj HP).2).1
     have H1 := (Prod.mk.inj HP).1
     clear HP
     rw [H3] at H1
     have e6 : ((sd : Int) * 1103515245 + 12345).tmod 2147483648 = (sd' : Int) := by rw [Int.tmod_eq_emod_of_nonneg (by omega)]; omega
     have hsd' : sd' < 2147483648 := by omega
     have K1 := qh H1
     clear H3 H1
     subst H2
     have h3' : decide ((3000 : Int) < (a : Int) + 1) = false := by simp; omega
     clear h3
     go_quiet (fail)
     have hr2 : Rg g (g + 1) w (w1.drewN nq) := hr1.trans (Rg.of_nx ((Nx.refl w1).drewN nq))
     have hb2 : Box (w1.drewN nq) g 132 #[.slice A n c, ii ((a : Int) + 1), ii sd] := hbs
     clear c0 c1 c2 f2 hbs hr1 h1
     generalize w1.drewN nq = w2 at *
     have c0 := hb2.d0
     have c1 := hb2.d1
     have c2 := hb2.d2
     have f2 := hb2.frozen 2
     go_wp2
     go_ret
     exact ⟨ret_int (by have := K1.out; omega), hb2.put2 _, hr2.setCell (p := ⟨g, 2, none⟩) nle (Nat.lt_succ_self _) _⟩
theorem next_c (m g : Nat) (A : Option Addr) (n c a sd B : Nat) (ys : List Nat) (b a' sd' : Nat) (w : World) (hm : 2 ≤ m) (hm2 : m ≤ 256) (hb : Src w g A n c a sd) (h : U8s w B A n ys) (hB : B ≤ g) (hn : n ≤ 1048576) (ha : a ≤ 1048576) (hs : sd < 2147483648)
 (HP : byteP ys a sd = (b, a', sd')) :
 Calls Tryz.prog 96 #[.pointer (some ⟨g, 0, none⟩), ii m] w fun e w' => e = .returned (ii ((b % m : Nat) : Int)) ∧ Src w' g A n c a' sd' ∧ Rg g (g + 1) w w' := by
 have HH := qh HP
 have hb2 := (byteP_lt h.2.1 hs HP).1
 clear HP
 go_enter Tryz.func96, Tryz.ntmps96
 go_wp2_with fail
 refine (byte_c g A n c a sd B ys b a' sd' _ hb h hB hn ha hs HH.out).mono ?_
 rintro e w1 ⟨rfl, h1, hr⟩
 go_wp2
 go_ret
 exact ⟨ret_int (by omega), h1, hr⟩
theorem chance_c (m g : Nat) (A : Option Addr) (n c a sd B : Nat) (ys : List Nat) (b a' sd' : Nat) (w : World) (hm : 2 ≤ m) (hm2 : m ≤ 256) (hb : Src w g A n c a sd) (h : U8s w B A n ys) (hB : B ≤ g) (hn : n ≤ 1048576) (ha : a ≤ 1048576) (hs : sd < 2147483648)
 (HP : byteP ys a sd = (b, a', sd')) :
 Calls Tryz.prog 98 #[.pointer (some ⟨g, 0, none⟩), ii m] w fun e w' => e = .returned (.bool (decide (b % m = m - 1))) ∧ Src w' g A n c a' sd' ∧ Rg g (g + 1) w w' := by
 have HH := qh HP
 have hb2 := (byteP_lt h.2.1 hs HP).1
 clear HP
 go_enter Tryz.func98, Tryz.ntmps98
 go_wp2_with fail
 refine (next_c m g A n c a sd B ys b a' sd' _ hm hm2 hb h hB hn ha hs HH.out).mono ?_
 rintro e w1 ⟨rfl, h1, hr⟩
 go_wp2
 all_goals (go_ret; refine ⟨ret_bool ?_, h1, hr⟩; rw [Bool.eq_iff_iff]; simp; omega)
theorem l00Source_c (A : Option Addr) (n c : Nat) (w : World) (hn : n ≤ 1048576) :
 Calls Tryz.prog 42 #[.slice A n c] w fun e w' => e = .returned (.pointer (some ⟨w.heap.size, 0, none⟩)) ∧ Src w' w.heap.size A n c 0 (n % 1000) ∧ Nx w w' := by
 go_enter Tryz.func42, Tryz.ntmps42
 go_wp2
 go_ret
 refine ⟨rfl, ?_, (Nx.refl w).alloc _⟩
 unfold Src
 rw [show (((n % 1000 : Nat) : Int)) = (n : Int) % 1000 from by omega]
 exact Box.new w _ _
theorem addr_plain8 {w : World} {a : Addr} {v : Value} (h : w.cell? (a.add 0) = some v) : ∃ b off, a = ⟨b, off, none⟩ ∧ b < w.heap.size := by
 have h' : w.cell? a = some v := by simpa [Addr.add] using h
 have hs := World.cell?_spot h'
 obtain ⟨b, off, sp⟩ := a
 simp only at hs
 subst hs
 exact ⟨b, off, rfl, World.block_lt_of_cell? w _ h'⟩
theorem addr_add8 (b off i : Nat) : (Addr.mk b off none).add i = ⟨b, off + i, none⟩ := by
 unfold Addr.add
 by_cases h : i = 0
 · subst h; simp
 · simp [h]
theorem c5_ : Tryz.prog.cellsOf 5 = 1 := by kernel_rfl
theorem u8_wf {n : Int} (h : (Lit.int .u8 n).wf = true) : 0 ≤ n ∧ n < 256 := by
 have h2 : IntKind.u8.min ≤ n ∧ n ≤ IntKind.u8.max := by simpa [Lit.wf] using h
 have e1 : IntKind.u8.min = 0 := by decide
 have e2 : IntKind.u8.max = 255 := by decide
 omega
theorem open_u8s_ {H : Type} {enc : TypeId × Value → H} {w : World} {base : Nat} {spare : Nat → Bool} {held : Bool} {r : Reach} {b0 : Nat} {v : Value} {d : DataW H} {p : List MemPlace}
 (hv : Value.okWide Tryz.prog w r b0 22 v) (h : DataW.Trod enc Tryz.prog w base spare held 22 v d p) :
 ∃ (A : Option Addr) (n c : Nat) (ys : List Nat), v = .slice A n c ∧ U8s w w.heap.size A n ys ∧ n ≤ 2 ^ 63 - 1 := by
 obtain ⟨a0, len0, cap0, rfl⟩ := okWide_slice Tryz.underlying22 hv
 obtain ⟨fuel, hf⟩ := h
 rcases open_slice Tryz.underlying22 hf with ⟨hcs, _⟩ | ⟨a, len, cap, m, n, D, Pl, hcs, _, hl, hm, hmm, _, hi⟩
 · simp [Value.cells] at hcs
   obtain ⟨rfl, rfl, rfl⟩ := hcs
   exact ⟨none, 0, 0, [], rfl, ⟨rfl, fun i => by simp, fun hn => absurd hn (by omega)⟩, by omega⟩
 · simp [Value.cells] at hcs
   obtain ⟨rfl, rfl, rfl⟩ := hcs
   have hle : len0 ≤ m := by rw [hmm]; split <;> omega
   unfold maxLen at hm
   have key : ∀ i, ∃ q : Nat, q < 256 ∧ (i < m → w.cell? (a.add i) = some (.int .u8 (q : Int))) := by
    intro i
    by_cases him : i < m
    · obtain ⟨cs', hc, ht⟩ := hi i him
      rw [c5_, Nat.mul_one] at hc
      obtain ⟨_, hcl, hat⟩ := World.cells?_some hc
      obtain ⟨q, e, _, hw⟩ := DataW.trod_int Tryz.underlying5 ht
      subst e
      obtain ⟨h1, h2⟩ := u8_wf hw
      refine ⟨q.toNat, by omega, fun _ => ?_⟩
      have := hat 0 (by omega)
      rw [show ((q.toNat : Nat) : Int) = q by omega]
      simpa [Addr.add] using this
    · exact ⟨0, by omega, fun h => absurd h him⟩
   obtain ⟨g, hg⟩ := Classical.skolem.1 key
   refine ⟨some a, len0, cap0, (List.range len0).map g, rfl, ⟨by simp, fun i => ?_, fun hn => ?_⟩, by omega⟩
   · rw [gdE, List.getElem?_map]
     by_cases hi' : i < len0
     · rw [List.getElem?_range hi']; exact (hg i).1
     · rw [List.getElem?_eq_none (by simpa using hi')]; simp
   · obtain ⟨b, off, rfl, hb⟩ := addr_plain8 ((hg 0).2 (by omega))
     refine ⟨b, off, rfl, hb, fun i hi => ?_⟩
     have h1 := (hg i).2 (by omega)
     rw [addr_add8] at h1
     rw [h1]
     unfold u8At
     rw [gdE, List.getElem?_map, List.getElem?_range hi]; rfl
end Go.Proofs.YtieoiailjjnnoaaGreatDoor
namespace Go.Proofs.YtieoiailjjnnoaaGreatDoor
set_option linter.unusedVariables false
set_option maxRecDepth 100000
set_option maxHeartbeats 16000000
open Go.RowKit
theorem Rg.setNew8 {lo hi : Nat} {a w : World} (h : Rg lo hi a w) {p : Addr} (h1 : a.heap.size ≤ p.block) (v : Value) : Rg lo hi a (w.setCell p v) := ⟨h.os, h.tape, h.output, by have := h.size; simp only [World.setCell, Array.size_modify]; exact this, fun k hk hr => (Below.heap_setCell _ _ _ _ (by omega)).trans (h.block k hk hr)⟩
def SrcR (w : World) (g : Nat) (A : Option Addr) (n c k : Nat) : Prop := ∃ a sd, a ≤ k ∧ sd < 2147483648 ∧ Src w g A n c a sd
theorem SrcR.nx {w w' : World} {g n c k : Nat} {A : Option Addr} (h : SrcR w g A n c k) (hb : Nx w w') : SrcR w' g A n c k := by
 obtain ⟨a, sd, h1, h2, h3⟩ := h
 unfold Src at h3
 exact ⟨a, sd, h1, h2, h3.nx hb⟩
theorem SrcR.lt {w : World} {g n c k : Nat} {A : Option Addr} (h : SrcR w g A n c k) : g < w.heap.size := by
 obtain ⟨a, sd, h1, h2, h3⟩ := h
 unfold Src at h3
 exact h3.lt
theorem SrcR.more {w : World} {g n c k k' : Nat} {A : Option Addr} (h : SrcR w g A n c k) (hk : k ≤ k') : SrcR w g A n c k' := by
 obtain ⟨a, sd, h1, h2, h3⟩ := h
 exact ⟨a, sd, by omega, h2, h3⟩
def RetV (m : Nat) (g : Nat) (A : Option Addr) (n c k : Nat) (w : World) (e : Ending) (w' : World) : Prop :=
 ∃ v : Nat, e = .returned (ii (v : Int)) ∧ v < m ∧ SrcR w' g A n c (k + 3) ∧ Rg g (g + 1) w w'
theorem byteR_c (g : Nat) (A : Option Addr) (n c k B : Nat) (ys : List Nat) (w : World) (hb : SrcR w g A n c k) (h : U8s w B A n ys) (hB : B ≤ g) (hn : n ≤ 1048576) (hk : k ≤ 1048576) :
 Calls Tryz.prog 170 #[.pointer (some ⟨g, 0, none⟩)] w fun e w' => ∃ b : Nat, e = .returned (ii b) ∧ b < 256 ∧ SrcR w' g A n c (k + 1) ∧ Rg g (g + 1) w w' := by
 obtain ⟨a, sd, h1, h2, h3⟩ := hb
 obtain ⟨⟨b, a', sd'⟩, HP⟩ : ∃ x, byteP ys a sd = x := ⟨_, rfl⟩
 obtain ⟨k1, k2, k3⟩ := byteP_lt h.2.1 h2 HP
 exact (byte_c g A n c a sd B ys b a' sd' w h3 h hB hn (by omega) h2 HP).mono fun e w' ⟨he, hs, hr⟩ => ⟨b, he, k1, ⟨a', sd', by omega, k3, hs⟩, hr⟩
theorem nextR_c (m g : Nat) (A : Option Addr) (n c k B : Nat) (ys : List Nat) (w : World) (hm : 2 ≤ m) (hm2 : m ≤ 100000) (hb : SrcR w g A n c k) (h : U8s w B A n ys) (hB : B ≤ g) (hn : n ≤ 1048576) (hk : k + 3 ≤ 1048576) :
 Calls Tryz.prog 96 #[.pointer (some ⟨g, 0, none⟩), ii m] w (RetV m g A n c k w) := by
 by_cases h256 : m ≤ 256
 · obtain ⟨a, sd, h1, h2, h3⟩ := hb
   obtain ⟨⟨b, a', sd'⟩, HP⟩ : ∃ x, byteP ys a sd = x := ⟨_, rfl⟩
   obtain ⟨k1, k2, k3⟩ := byteP_lt h.2.1 h2 HP
   exact (next_c m g A n c a sd B ys b a' sd' w hm h256 h3 h hB hn (by omega) h2 HP).mono fun e w' ⟨he, hs, hr⟩ => ⟨b % m, he, Nat.mod_lt _ (by omega), ⟨a', sd', by omega, k3, hs⟩, hr⟩
 · go_enter Tryz.func96, Tryz.ntmps96
   go_wp2_with fail
   refine (byteR_c g A n c k B ys _ hb h hB hn (by omega)).mono ?_
   rintro e w1 ⟨x, rfl, hx, h1, hr1⟩
   have hu1 := h.rg hr1 hB (Nat.le_of_lt hb.lt)
   go_wp2_with fail
   refine (byteR_c g A n c (k + 1) B ys _ h1 hu1 hB hn (by omega)).mono ?_
   rintro e w2 ⟨y, rfl, hy, h2, hr2⟩
   have hu2 := hu1.rg hr2 hB (Nat.le_of_lt h1.lt)
   go_wp2_with fail
   refine (byteR_c g A n c (k + 1 + 1) B ys _ h2 hu2 hB hn (by omega)).mono ?_
   rintro e w3 ⟨z, rfl, hz, h3, hr3⟩
   go_wp2
   go_ret
   exact ⟨(x * 65536 + y * 256 + z) % m, ret_int (by rw [show (x : Int) * 65536 + (y : Int) * 256 + (z : Int) = ((x * 65536 + y * 256 + z : Nat) : Int) by omega, ← Int.natCast_emod]), Nat.mod_lt _ (by omega), h3, (hr1.trans hr2).trans hr3⟩
def iV (xs : List Int) : List Value := xs.map fun x => ii x
theorem iV_get (xs : List Int) (i : Nat) (h : i < xs.length) : (iV xs)[i]? = some (inAt xs i) := by
 unfold iV inAt
 rw [List.getElem?_map, List.getElem?_eq_getElem h, gdE, List.getElem?_eq_getElem h]; rfl
def RowI (w : World) (B : Nat) (v : Value) (xs : List Int) : Prop := w.ownsRow B 3 1 v xs.length (iV xs)
theorem RowI.new (w : World) {B : Nat} (hB : B ≤ w.heap.size) : RowI (w.alloc (.cells #[] 3)) B (.slice (some ⟨w.heap.size, 0, none⟩) 0 0) [] :=
 ⟨rfl, .inr ⟨_, 0, #[], rfl, hB, heap_alloc_new w _, by simp, by unfold maxLen; omega, rfl, rfl⟩⟩
theorem RowI.sl {w : World} {B : Nat} {v : Value} {xs : List Int} (h : RowI w B v xs) : ∃ A c, v = .slice A xs.length c ∧ Sl w B A 3 xs.length (inAt xs) := by
 rcases h.2 with ⟨rfl, h0⟩ | ⟨g, cap, cur, rfl, hb, hg, hnc, _, hcs, htk⟩
 · exact ⟨none, 0, by rw [h0], fun hn => by omega⟩
 · refine ⟨_, cap, rfl, Sl.own ⟨cur, hg, by omega, fun i hi => ?_⟩ hb⟩
   have h1 : (cur.toList.take (xs.length * 1))[i]? = some (inAt xs i) := by rw [htk]; exact iV_get xs i hi
   rw [List.getElem?_take_of_lt (by omega)] at h1
   simpa using h1
theorem RowI.nx {w w' : World} {B : Nat} {v : Value} {xs : List Int} (h : RowI w B v xs) (hb : Nx w w') : RowI w' B v xs := by
 refine World.ownsRow.kept (row := none) h ⟨hb.os, hb.tape, hb.output, hb.size, fun i hi _ => hb.block i hi⟩ ?_
 cases hv : v.ownBlock with
 | none => exact .inl rfl
 | some g => exact .inr (by simp)
theorem RowI.rg {w w' : World} {B lo hi : Nat} {v : Value} {xs : List Int} (h : RowI w B v xs) (hr : Rg lo hi w w') (hh : hi ≤ B) : RowI w' B v xs := by
 rcases h.2 with ⟨rfl, h0⟩ | ⟨g, cap, cur, rfl, hb, hg, r⟩
 · exact ⟨h.1, .inl ⟨rfl, h0⟩⟩
 · have hlt := (World.ownsRow.lt h g rfl).2
   exact ⟨h.1, .inr ⟨g, cap, cur, rfl, hb, (hr.block g hlt (.inr (by omega))).trans hg, r⟩⟩
theorem RowI.ne {w : World} {B g : Nat} {v : Value} {xs : List Int} {t : TypeId} {ys : Array Value} (h : RowI w B v xs) (hb : Box w g t ys) (ht : t ≠ 3) : some g ≠ v.ownBlock := by
 intro he
 rcases h.2 with ⟨rfl, _⟩ | ⟨g', cap, cur, rfl, _, hg, _⟩
 · simp [Value.ownBlock] at he
 · obtain rfl : g = g' := by simpa [Value.ownBlock] using he
   unfold Box at hb
   rw [hg] at hb
   injection hb with hb
   injection hb with _ hb
   exact ht hb.symm
structure GrewT (t : TypeId) (B : Nat) (w w' : World) : Prop where
 nx : ∀ a, Nx a w → a.heap.size ≤ B → Nx a w'
 rg : ∀ lo hi a, Rg lo hi a w → a.heap.size ≤ B → Rg lo hi a w'
 box : ∀ g t' xs, t' ≠ t → Box w g t' xs → Box w' g t' xs
 size : w.heap.size ≤ w'.heap.size
theorem wpList_addI {w : World} {ops : Array Oper} {rest : List Oper} {o : Oper} {a : Act} {Q : Exit → Act → World → Prop}
 (hgd : o.guard = none) (s x : Operand) (ho : o.op = .call { callee := .builtin .append, args := #[s, x], argTypes := #[23, 23] })
 (B gd : Nat) (v : Value) (xs : List Int) (x0 : Int) (hs : a.eval s = v) (hx : a.eval x = .slice (some ⟨gd, 0, none⟩) 1 1) (hown : RowI w B v xs) (hbx : Box w gd 3 #[ii x0])
 (hl : xs.length ≤ 1048576) (hB : B ≤ w.heap.size)
 (hK : ∀ A' k' w', RowI w' B (.slice A' (xs.length + 1) k') (xs ++ [x0]) → GrewT 3 B w w' → wpList Tryz.prog ops Q rest (a.put o.dst (.slice A' (xs.length + 1) k')) w') :
 wpList Tryz.prog ops Q (o :: rest) a w := by
 obtain ⟨i0, hi0, hz0, hz1, hz2⟩ := info_parts info_int
 refine wpList_append_own w hgd s x 23 ho B 3 i0 _ 1 8 Tryz.underlying23 hi0 hz0 hz1 hz2 rfl (by omega) v xs.length _ hs hown ⟨gd, 0, none⟩ 1 1 [ii x0] hx rfl (fun j u hj => ?_) (fun u hu => by simp only [List.mem_cons, List.not_mem_nil, or_false] at hu; rcases hu with rfl; rfl) (by unfold maxLen; omega) (by omega) hB ?_
 · rw [addr_add', Nat.zero_add, hbx.cell j]
   rw [← hj]
   rcases j with _ | j <;> simp
 · intro v' w' hw' hg' _
   have hr : RowI w' B v' (xs ++ [x0]) := by
    unfold RowI iV
    rw [List.map_append, List.length_append]
    exact hw'
   obtain ⟨A', k', rfl, _⟩ := hr.sl
   rw [List.length_append] at hr ⊢
   have hrow : ∀ k, Value.ownBlock v = some k → B ≤ k := fun k hk => (World.ownsRow.lt hown k hk).1
   refine hK A' k' w' hr ⟨fun b hb hbB => Below.grown hb hg' hb.size (fun k hk => ntr hbB (hrow k hk)), fun lo hi b hb hbB => ?_, fun g t xs' ht hbg => hbg.grown hg' (hown.ne hbg ht), hg'.size⟩
   refine ⟨hg'.os.trans hb.os, hg'.tape.trans hb.tape, hg'.output.trans hb.output, ntr hb.size hg'.size, fun k hk hr => (hg'.block k (Nat.lt_of_lt_of_le hk hb.size) fun e => ?_).trans (hb.block k hk hr)⟩
   have := hrow k e.symm
   omega
theorem RowI.nil (w : World) (B : Nat) : RowI w B (nsl) [] := ⟨rfl, .inl ⟨rfl, rfl⟩⟩
theorem RowI.slc {w : World} {B : Nat} {v : Value} {xs : List Int} (h : RowI w B v xs) : ∃ A c, v = .slice A xs.length c ∧ xs.length ≤ c ∧ Sl w B A 3 xs.length (inAt xs) := by
 rcases h.2 with ⟨rfl, h0⟩ | ⟨g, cap, cur, rfl, hb, hg, hnc, _, hcs, htk⟩
 · exact ⟨none, 0, by rw [h0], by omega, fun hn => by omega⟩
 · refine ⟨_, cap, rfl, by omega, Sl.own ⟨cur, hg, by omega, fun i hi => ?_⟩ hb⟩
   have h1 : (cur.toList.take (xs.length * 1))[i]? = some (inAt xs i) := by rw [htk]; exact iV_get xs i hi
   rw [List.getElem?_take_of_lt (by omega)] at h1
   simpa using h1

def Sm (xs : List Int) : Prop := ∀ x ∈ xs, 0 ≤ x ∧ x < 90
theorem Sm.add {xs : List Int} (h : Sm xs) {v : Nat} (hv : v < 90) : Sm (xs ++ [(v : Int)]) := fun x hx => by
 rcases List.mem_append.1 hx with hx | hx
 · exact h x hx
 · simp only [List.mem_singleton] at hx
   subst hx
   omega
theorem Sm.cont {xs : List Int} (h : Sm xs) (hl : xs.length = 8) : contB xs = true := by
 unfold contB
 rw [decide_eq_true hl, List.all_eq_true.2 fun x hx => by have := h x hx; unfold inB; simp; omega]; rfl
theorem SrcR.rgO {w w' : World} {B : Nat} {g n c k : Nat} {A : Option Addr} (h : SrcR w g A n c k) (hb : GrewT 3 B w w') : SrcR w' g A n c k := by
 obtain ⟨a, sd, h1, h2, h3⟩ := h
 unfold Src at h3
 exact ⟨a, sd, h1, h2, hb.box _ _ _ (by decide) h3⟩

theorem ch_one {b v o : Int} (h : chB (b, v, o) = true) : chsB [(b, v, o)] = true := OkTo.all fun j hj => by
 obtain rfl : j = 0 := by simp at hj; omega
 unfold okCh
 show (chB (b, v, o) && _) = true
 rw [h]; rfl
theorem chB_mk {b v o : Int} (h0 : 0 ≤ b) (h1 : b ≤ 7) (h2 : 0 ≤ v) (h3 : v ≤ 999999) (h4 : 0 ≤ o) (h5 : o ≤ 999999) : chB (b, v, o) = true := by
 unfold chB
 rw [inB_mk h0 h1, inB_mk h2 h3, inB_mk h4 h5]; rfl
theorem app_one (p : Chg → Int) (xs : List Int) (b : Nat) (v o : Int) : app p xs [((b : Int), v, o)] = xs.set b (p ((b : Int), v, o)) := by
 show xs.set ((b : Int)).toNat _ = _
 rw [Int.toNat_natCast]
theorem getD_set_self {xs : List Int} {b : Nat} (h : b < xs.length) (v : Int) : (xs.set b v).getD b 0 = v := by
 rw [gdE, List.getElem?_set]; simp [h]
theorem getD_set_ne {xs : List Int} {b b2 : Nat} (h : b ≠ b2) (v : Int) : (xs.set b v).getD b2 0 = xs.getD b2 0 := by
 rw [gdE, gdE, List.getElem?_set_ne h]
theorem set_getD {xs : List Int} {b : Nat} (h : b < xs.length) : xs.set b (xs.getD b 0) = xs := by
 rw [gdE, List.getElem?_eq_getElem h]
 exact List.set_getElem_self h
end Go.Proofs.YtieoiailjjnnoaaGreatDoor
namespace Go.Proofs.YtieoiailjjnnoaaGreatDoor
set_option linter.unusedVariables false
set_option maxRecDepth 100000
set_option maxHeartbeats 16000000
open Go.Joins Go.ChangeShapes Go.WideShapes Go.RowKit Go.Deep
structure SgR where
 f : Int
 t : Int
 m : Int
 A : Option Addr
 c : Nat
 cs : List Chg
def sgZ : SgR := ⟨0, 0, 0, none, 0, []⟩
def SgR.v (g : SgR) : Sg4 := (g.f, g.t, g.m, g.cs)
def sgAt (gs : List SgR) (i : Nat) : Value :=
 if i % 4 = 0 then ii (gs.getD (i / 4) sgZ).f else if i % 4 = 1 then ii (gs.getD (i / 4) sgZ).t else if i % 4 = 2 then ii (gs.getD (i / 4) sgZ).m else .slice (gs.getD (i / 4) sgZ).A (gs.getD (i / 4) sgZ).cs.length (gs.getD (i / 4) sgZ).c
theorem sgAt0 (gs : List SgR) (k : Nat) : sgAt gs (k * 4) = ii (gs.getD k sgZ).f := by
 unfold sgAt; rw [if_pos (by omega), show k * 4 / 4 = k by omega]
theorem sgAt1 (gs : List SgR) (k : Nat) : sgAt gs (k * 4 + 1) = ii (gs.getD k sgZ).t := by
 unfold sgAt; rw [if_neg (by omega), if_pos (by omega), show (k * 4 + 1) / 4 = k by omega]
theorem sgAt2 (gs : List SgR) (k : Nat) : sgAt gs (k * 4 + 2) = ii (gs.getD k sgZ).m := by
 unfold sgAt; rw [if_neg (by omega), if_neg (by omega), if_pos (by omega), show (k * 4 + 2) / 4 = k by omega]
theorem sgAt3 (gs : List SgR) (k : Nat) : sgAt gs (k * 4 + 3) = .slice (gs.getD k sgZ).A (gs.getD k sgZ).cs.length (gs.getD k sgZ).c := by
 unfold sgAt; rw [if_neg (by omega), if_neg (by omega), if_neg (by omega), show (k * 4 + 3) / 4 = k by omega]
theorem sgAt_app (gs hs : List SgR) (i : Nat) (h : i < gs.length * 4) : sgAt (gs ++ hs) i = sgAt gs i := by
 have e : (gs ++ hs).getD (i / 4) sgZ = gs.getD (i / 4) sgZ := by
  rw [gdE, gdE, List.getElem?_append_left (by omega)]
 unfold sgAt; rw [e]
theorem getD_app (gs : List SgR) (g : SgR) : (gs ++ [g]).getD gs.length sgZ = g := by
 rw [gdE, List.getElem?_append_right nle]; simp
theorem getD_app_lt (gs : List SgR) (g : SgR) {k : Nat} (h : k < gs.length) : (gs ++ [g]).getD k sgZ = gs.getD k sgZ := by
 rw [gdE, gdE, List.getElem?_append_left h]
theorem v_at {gs hs : List SgR} (h : gs.map SgR.v = hs.map SgR.v) (k : Nat) : (gs.getD k sgZ).v = (hs.getD k sgZ).v := by
 have e : (gs.map SgR.v)[k]? = (hs.map SgR.v)[k]? := by rw [h]
 rw [List.getElem?_map, List.getElem?_map] at e
 rw [gdE, gdE]
 cases h1 : gs[k]? <;> cases h2 : hs[k]? <;> rw [h1, h2] at e <;> simp at e
 · exact e
theorem v_len {gs hs : List SgR} (h : gs.map SgR.v = hs.map SgR.v) : gs.length = hs.length := by
 have := congrArg List.length h
 simpa using this
structure Sgs (w : World) (B : Nat) (A : Option Addr) (gs : List SgR) : Prop where
 row : Row w B A (gs.length * 4) (sgAt gs)
 chs : ∀ k, k < gs.length → Chs w B (gs.getD k sgZ).A (gs.getD k sgZ).cs
theorem Sgs.below {w w' : World} {B B' : Nat} {A : Option Addr} {gs : List SgR} (h : Sgs w B A gs) (hb : Below B' w w') (hB : B ≤ B') : Sgs w' B A gs := ⟨h.row.below hb hB, fun k hk => (h.chs k hk).below hb hB⟩
structure SgO (w : World) (lo : Nat) (A : Option Addr) (gs : List SgR) : Prop where
 row : Sl w lo A 122 (gs.length * 4) (sgAt gs)
 chs : ∀ k, k < gs.length → Sl w lo (gs.getD k sgZ).A 192 ((gs.getD k sgZ).cs.length * 3) (chAt (gs.getD k sgZ).cs)
theorem SgO.nx {w w' : World} {lo : Nat} {A : Option Addr} {gs : List SgR} (h : SgO w lo A gs) (hb : Nx w w') : SgO w' lo A gs := ⟨h.row.nx hb, fun k hk => (h.chs k hk).nx hb⟩
theorem SgO.low {w : World} {lo lo' : Nat} {A : Option Addr} {gs : List SgR} (h : SgO w lo A gs) (hl : lo' ≤ lo) : SgO w lo' A gs := ⟨h.row.low hl, fun k hk => (h.chs k hk).low hl⟩
theorem SgO.sgs {w : World} {lo : Nat} {A : Option Addr} {gs : List SgR} (h : SgO w lo A gs) : Sgs w w.heap.size A gs := ⟨h.row.row, fun k hk => (h.chs k hk).row⟩
def ssum (gs : List SgR) (k : Nat) : Nat := ((gs.take k).map fun g => g.cs.length).sum
theorem ssum_zero (gs : List SgR) : ssum gs 0 = 0 := rfl
theorem ssum_succ {gs : List SgR} {k : Nat} (hk : k < gs.length) : ssum gs (k + 1) = ssum gs k + (gs.getD k sgZ).cs.length := by
 unfold ssum
 rw [List.take_succ_eq_append_getElem hk, List.map_append, List.sum_append, gdE, List.getElem?_eq_getElem hk]
 simp
theorem Fill.congr {w : World} {g : Nat} {t : TypeId} {m k : Nat} {F F' : Nat → Value} (h : Fill w g t m k F) (hf : ∀ i, i < k → F i = F' i) : Fill w g t m k F' := by
 obtain ⟨f, h, hF⟩ := h
 exact ⟨f, h, fun i hi => (hF i hi).trans (hf i hi)⟩
end Go.Proofs.YtieoiailjjnnoaaGreatDoor
namespace Go.Proofs.YtieoiailjjnnoaaGreatDoor
set_option linter.unusedVariables false
set_option maxRecDepth 100000
set_option maxHeartbeats 16000000
open Go.RowKit
def atK (base : Int) (gs : List SgR) : Nat → Int
 | 0 => base
 | k + 1 => (gs.getD k sgZ).t
def tmK (gs : List SgR) : Nat → Int
 | 0 => 0
 | k + 1 => (gs.getD k sgZ).m
def mpK (gs : List SgR) : Nat → Int → Option Chg
 | 0 => noM
 | k + 1 => noteM (mpK gs k) (gs.getD k sgZ).cs
def onC (M : Int → Option Chg) (c : Chg) : Bool := match M c.1 with
 | some a => decide (a.2.1 = c.2.2)
 | none => true
def onB (M : Int → Option Chg) (cs : List Chg) : Bool := cs.all (onC M)
def sgB (g : SgR) : Bool := segB g.f g.t g.m g.cs
def lnk (base : Int) (gs : List SgR) (k : Nat) : Bool := sgB (gs.getD k sgZ) && decide ((gs.getD k sgZ).f = atK base gs k) && decide (tmK gs k ≤ (gs.getD k sgZ).m) && onB (mpK gs k) (gs.getD k sgZ).cs
def chainB (base : Int) (gs : List SgR) : Bool := decide (gs.length ≤ 4096) && inB 0 999999 base && (List.range gs.length).all (lnk base gs)
def LnTo (base : Int) (gs : List SgR) (k : Nat) : Prop := ∀ j, j < k → lnk base gs j = true
theorem LnTo.zero (base : Int) (gs : List SgR) : LnTo base gs 0 := fun j h => absurd h (by omega)
theorem LnTo.succ {base : Int} {gs : List SgR} {k : Nat} (h : LnTo base gs k) (hk : lnk base gs k = true) : LnTo base gs (k + 1) := fun j hj => by
 rcases Nat.lt_or_ge j k with hlt | hge
 · exact h j hlt
 · obtain rfl : j = k := by omega
   exact hk
theorem LnTo.all {base : Int} {gs : List SgR} (h : LnTo base gs gs.length) (hl : gs.length ≤ 4096) (hb : inB 0 999999 base = true) : chainB base gs = true := by
 unfold chainB
 rw [decide_eq_true hl, hb, List.all_eq_true.2 fun j hj => h j (by simpa using hj)]; rfl
def OnTo (M : Int → Option Chg) (cs : List Chg) (k : Nat) : Prop := ∀ j, j < k → onC M (cs.getD j chZ) = true
theorem OnTo.zero (M : Int → Option Chg) (cs : List Chg) : OnTo M cs 0 := fun j h => absurd h (by omega)
theorem OnTo.succ {M : Int → Option Chg} {cs : List Chg} {k : Nat} (h : OnTo M cs k) (hk : onC M (cs.getD k chZ) = true) : OnTo M cs (k + 1) := fun j hj => by
 rcases Nat.lt_or_ge j k with hlt | hge
 · exact h j hlt
 · obtain rfl : j = k := by omega
   exact hk
theorem OnTo.all {M : Int → Option Chg} {cs : List Chg} (h : OnTo M cs cs.length) : onB M cs = true := List.all_eq_true.2 fun x hx => by
 obtain ⟨j, hj, rfl⟩ := List.mem_iff_getElem.1 hx
 have := h j hj
 rwa [gdE, List.getElem?_eq_getElem hj] at this

def NonN (M : Int → Option Chg) : Prop := ∀ j c, M j = some c → 0 ≤ c.2.1
theorem OkTo.lt {cs : List Chg} {n : Nat} (h : OkTo cs n) : ∀ j, j < n → ∀ i, i < j → (cs.getD i chZ).1 < (cs.getD j chZ).1 := by
 intro j
 induction j with
 | zero => intro _ i hi; omega
 | succ j ih =>
   intro hj i hi
   have h0 := h (j + 1) hj
   unfold okCh at h0
   simp only [Bool.and_eq_true, Bool.or_eq_true, decide_eq_true_eq, Nat.add_sub_cancel] at h0
   have hlt : (cs.getD j chZ).1 < (cs.getD (j + 1) chZ).1 := by
    rcases h0.2 with h2 | h2
    · simp at h2
    · exact h2
   by_cases e : i = j
   · rw [e]; exact hlt
   · have := ih (by omega) i (by omega)
     omega
theorem NonN.note {M : Int → Option Chg} (h : NonN M) {cs : List Chg} (hok : OkTo cs cs.length) : ∀ k, k ≤ cs.length → NonN (noteM M (cs.take k)) := by
 intro k
 induction k with
 | zero => intro _; exact h
 | succ k ih =>
   intro hk j c hj
   rw [noteM_succ M cs (by omega)] at hj
   simp only at hj
   by_cases e : j = (cs.getD k chZ).1
   · rw [if_pos e] at hj
     obtain rfl := Option.some.inj hj
     have := hok k (by omega)
     unfold okCh chB at this
     simp only [Bool.and_eq_true] at this
     exact (inB_yes this.1.1.2).1
   · rw [if_neg e] at hj
     exact ih (by omega) j c hj
theorem lnk_yes_parts {base : Int} {gs : List SgR} {k : Nat} (h : lnk base gs k = true) : segB (gs.getD k sgZ).f (gs.getD k sgZ).t (gs.getD k sgZ).m (gs.getD k sgZ).cs = true ∧ (gs.getD k sgZ).f = atK base gs k := by
 unfold lnk sgB at h
 simp only [Bool.and_eq_true, decide_eq_true_eq] at h
 exact ⟨h.1.1.1, h.1.1.2⟩
theorem segB_range {f t m : Int} {cs : List Chg} (h : segB f t m cs = true) : inB 0 999999 f = true ∧ inB 0 999999 t = true ∧ inB 0 999999 m = true ∧ f < t := by
 unfold segB at h
 simp only [Bool.and_eq_true, decide_eq_true_eq] at h
 exact ⟨h.1.1.1.1, h.1.1.1.2, h.1.2, h.1.1.2⟩
theorem LnTo.end_ {base : Int} {gs : List SgR} {k : Nat} (h : LnTo base gs k) : inB 0 999999 (atK base gs k) = inB 0 999999 base := by
 cases k with
 | zero => rfl
 | succ k =>
   obtain ⟨h1, h2⟩ := lnk_yes_parts (h 0 (by omega))
   have h3 := (segB_range h1).1
   rw [h2] at h3
   rw [show atK base gs (k + 1) = (gs.getD k sgZ).t from rfl, (segB_range (lnk_yes_parts (h k (by omega))).1).2.1]
   exact h3.symm
theorem LnTo.chain {base : Int} {gs : List SgR} (h : LnTo base gs gs.length) (hl : gs.length ≤ 4096) : chainB base gs = inB 0 999999 base := by
 unfold chainB
 rw [decide_eq_true hl, List.all_eq_true.2 fun j hj => h j (by simpa using hj)]; simp
end Go.Proofs.YtieoiailjjnnoaaGreatDoor
