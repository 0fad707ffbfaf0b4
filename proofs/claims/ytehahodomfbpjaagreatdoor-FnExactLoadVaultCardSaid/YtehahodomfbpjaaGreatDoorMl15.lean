/-
  Texts of the proof, put together in their order: Ldk, Ldq, Sz, To, Eq, Mkv, Mvt, Mkw, Mkx, Mky, Vlv, Lld, Open, Dld.
  Conditions: those of each.
-/
import Derived.Test.YtehahodomfbpjaaGreatDoorMl14
import Derived.Outline
import Derived.Deep.QuietTactic
import Derived.BigQuiet
import Derived.StillTailTactics
import Derived.Lib.SmallJoins
import Derived.SliceStrings
import Derived.Deep.Slices
import Derived.Deep.Fields
import Derived.ChangeSame
import Derived.Test.YtehahodomfbpjaaGreatDoorRows
import Derived.LaidHandle
import Derived.Lay
import Derived.HandedShaped
import Derived.Shelf.Vars
import Derived.ProofKit
import Derived.LaidMore
import Derived.OpenShut
import Derived.OpenVars
import Derived.Stop.Joined
import Derived.Stop.LaidTwo
import Derived.Lib.LaidTab
import Derived.LaidLaws
import Derived.ShutString
import Derived.ChangeOld
import Derived.Below
/- Contracts of the model's l05Load and LoadVault. Conditions: the disk can be read, and holds at most 1048576 elements of a kind. -/
namespace Go.Proofs.YtehahodomfbpjaaGreatDoor
set_option linter.unusedVariables false
set_option maxRecDepth 100000
open Go.RowKit

theorem merge4L {G : Nat → Option Addr → Nat → World → Prop} {F : Nat → Option Addr → Nat → World → Prop} {R : Prop} (main : (∀ g A c W, F g A c W → G g A c W) → R) (key : ∀ g A c W, F g A c W → G g A c W) : R := main key
theorem merge2L {G : Nat → World → Prop} {F : Nat → World → Prop} {R : Prop} (main : (∀ g W, F g W → G g W) → R) (key : ∀ g W, F g W → G g W) : R := main key
theorem slput4q {u : World} {lo g m : Nat} {A : Option Addr} {t t' : TypeId} {f : Nat → Value} {a b c d : Value} (h : Sl u lo A t m f) (hb : Box u g t' #[a, b, c, d]) (ht : t' ≠ t) (v0 v1 v2 v3 : Value) : Sl (put4 u g v0 v1 v2 v3) lo A t m f :=
  (((h.far_ty (p := ⟨g, 0, none⟩) hb ht v0).far_ty (p := ⟨g, 1, none⟩) (hb.set 0 v0) ht v1).far_ty (p := ⟨g, 2, none⟩) ((hb.set 0 v0).set 1 v1) ht v2).far_ty (p := ⟨g, 3, none⟩) (((hb.set 0 v0).set 1 v1).set 2 v2) ht v3
theorem RowS.farB {w : World} {B g i : Nat} {v : Value} {gs : List SgR} {t : TypeId} {cs : Array Value} (h : RowS w B v gs) (hb : Box w g t cs) (ht : t ≠ 130) (x : Value) : RowS (w.setCell ⟨g, i, none⟩ x) B v gs :=
  World.ownsRow.kept (row := some g) h ⟨rfl, rfl, rfl, by simp [World.setCell], fun k hk hn => Below.heap_setCell _ _ _ _ (fun e => hn (by rw [e]))⟩ (.inr (fun e => h.ne hb.own ht e.symm))
theorem RowI.farB {w : World} {B g i : Nat} {v : Value} {xs : List Int} {t : TypeId} {cs : Array Value} (h : RowI w B v xs) (hb : Box w g t cs) (ht : t ≠ 3) (x : Value) : RowI (w.setCell ⟨g, i, none⟩ x) B v xs :=
  World.ownsRow.kept (row := some g) h ⟨rfl, rfl, rfl, by simp [World.setCell], fun k hk hn => Below.heap_setCell _ _ _ _ (fun e => hn (by rw [e]))⟩ (.inr (fun e => h.ne hb ht e.symm))
theorem ChO.farB {w : World} {B g i : Nat} {gs : List SgR} {t : TypeId} {cs : Array Value} (h : ChO w B gs) (hb : Box w g t cs) (ht : t ≠ 202) (x : Value) : ChO (w.setCell ⟨g, i, none⟩ x) B gs := fun k hk => (h k hk).far_ty (p := ⟨g, i, none⟩) hb ht x
theorem SgO.farB {w : World} {lo g i : Nat} {A : Option Addr} {gs : List SgR} {t : TypeId} {cs : Array Value} (h : SgO w lo A gs) (hb : Box w g t cs) (ht : t ≠ 130) (ht2 : t ≠ 202) (x : Value) : SgO (w.setCell ⟨g, i, none⟩ x) lo A gs :=
  ⟨h.row.far_ty (p := ⟨g, i, none⟩) hb ht x, fun k hk => (h.chs k hk).far_ty (p := ⟨g, i, none⟩) hb ht2 x⟩
set_option maxHeartbeats 1000000 in
/-- append of one int at an operation of a region that draws its order. -/
theorem wp_addI {w : World} {o : Oper} {a : Act} {K : Act → World → Prop} {Q : Exit → Act → World → Prop}
    (s x : Operand) (ho : o.op = .call { callee := .builtin .append, args := #[s, x], argTypes := #[27, 27] })
    (B gd : Nat) (v : Value) (xs : List Int) (x0 : Int) (hs : a.eval s = v) (hx : a.eval x = .slice (some ⟨gd, 0, none⟩) 1 1) (hown : RowI w B v xs) (hbx : Box w gd 3 #[.int .i64 x0])
    (hl : xs.length ≤ 1048576) (hB : B ≤ w.heap.size)
    (hK : ∀ A' k' w', RowI w' B (.slice A' (xs.length + 1) k') (xs ++ [x0]) → GrewT 3 B w w' → K (a.put o.dst (.slice A' (xs.length + 1) k')) w') :
    o.wp Tryz.prog a w K Q := by
  obtain ⟨i0, hi0, hz0, hz1, hz2⟩ := info_parts info_int
  refine wp_append_own w s x 27 ho B 3 i0 _ 1 8 Tryz.underlying27 hi0 hz0 hz1 hz2 rfl (by omega) v xs.length _ hs hown ⟨gd, 0, none⟩ 1 1 [.int .i64 x0] hx rfl (fun j u hj => ?_) (fun u hu => by simp only [List.mem_cons, List.not_mem_nil, or_false] at hu; rcases hu with rfl; rfl) (by unfold maxLen; omega) (by omega) hB ?_
  · rw [addr_add', Nat.zero_add, hbx.cell j]
    rw [← hj]
    rcases j with _ | j <;> simp
  · intro v' w' hw' hg' _
    have hr : RowI w' B v' (xs ++ [x0]) := by
      unfold RowI iV
      rw [List.map_append, List.length_append]
      exact hw'
    obtain ⟨A', k', rfl, _⟩ := hr.sl
    rw [List.length_append] at hr ⊢
    have hrow : ∀ k, Value.ownBlock v = some k → B ≤ k := fun k hk => (World.ownsRow.lt hown k hk).1
    refine hK A' k' w' hr ⟨fun b hb hbB => Below.grown hb hg' hb.size (fun k hk => Nat.le_trans hbB (hrow k hk)), fun lo hi b hb hbB => ?_, fun g t xs' ht hbg => hbg.grown hg' (hown.ne hbg ht), hg'.size⟩
    refine ⟨hg'.os.trans hb.os, hg'.tape.trans hb.tape, hg'.output.trans hb.output, Nat.le_trans hb.size hg'.size, fun k hk hr => (hg'.block k (Nat.lt_of_lt_of_le hk hb.size) fun e => ?_).trans (hb.block k hk hr)⟩
    have := hrow k e.symm
    omega
set_option maxHeartbeats 8000000 in
theorem l05Load_c (A A2 : Option Addr) (n c n2 c2 B : Nat) (ss : List ByteArray) (ws : List (Int × ByteArray)) (w : World) (h : Strs w B A n ss) (h2 : Wrs w B A2 n2 ws) (hB : B ≤ w.heap.size) (hn : n ≤ 1048576) (hn2 : n2 ≤ 1048576) (hD : diskB ss ws = true) :
    Calls Tryz.prog 55 #[.agg #[.slice A n c, .slice A2 n2 c2]] w (RetLd w (ldV ss ws)) := by
  have r0 : Box ((w.alloc (.cells #[.slice A n c, .slice A2 n2 c2] 38)).alloc (.cells #[.int .i64 0, .int .i64 0, .int .i64 0, .int .i64 0, .slice none 0 0, .slice none 0 0, .slice none 0 0, .slice none 0 0] 33)) (w.heap.size + 1) 33 #[.int .i64 0, .int .i64 0, .int .i64 0, .int .i64 0, .slice none 0 0, .slice none 0 0, .slice none 0 0, .slice none 0 0] := by have := Box.new (w.alloc (.cells #[.slice A n c, .slice A2 n2 c2] 38)) 33 #[.int .i64 0, .int .i64 0, .int .i64 0, .int .i64 0, .slice none 0 0, .slice none 0 0, .slice none 0 0, .slice none 0 0]; rwa [World.size_alloc] at this
  have e0 : Box ((w.alloc (.cells #[.slice A n c, .slice A2 n2 c2] 38)).alloc (.cells #[.int .i64 0, .int .i64 0, .int .i64 0, .int .i64 0, .slice none 0 0, .slice none 0 0, .slice none 0 0, .slice none 0 0] 33)) w.heap.size 38 #[.slice A n c, .slice A2 n2 c2] := (Box.new w _ _).alloc _
  have hx0 := ((Nx.refl w).alloc (.cells #[.slice A n c, .slice A2 n2 c2] 38)).alloc (.cells #[.int .i64 0, .int .i64 0, .int .i64 0, .int .i64 0, .slice none 0 0, .slice none 0 0, .slice none 0 0, .slice none 0 0] 33)
  go_enter Tryz.func55, Tryz.ntmps55
  go_wp2_with fail
  generalize (w.alloc (.cells #[.slice A n c, .slice A2 n2 c2] 38)).alloc (.cells #[.int .i64 0, .int .i64 0, .int .i64 0, .int .i64 0, .slice none 0 0, .slice none 0 0, .slice none 0 0, .slice none 0 0] 33) = W at *
  obtain ⟨gR, Hg⟩ : ∃ g, Hid (w.heap.size + 1 = g) := ⟨_, rfl⟩
  have hgR : w.heap.size ≤ gR := by have := Hg.out; omega
  have hgR1 : w.heap.size < gR := by have := Hg.out; omega
  rw [Hg.out] at r0 ⊢
  have hltR0 := r0.lt
  have h1n : 64 ≤ n := by have := (diskB_len64 hD).1; have := h.1; omega
  have HD := Lib.hid hD
  have HDs := Lib.hid (fun a => readP_size hD a)
  clear hD
  have z0 := e0.c0
  have z1 := e0.c1
  go_wp2_with fail
  refine (l04Newest_c A A2 n c n2 c2 B ss ws _ (h.below hx0 hB) (h2.below hx0 hB) (Nat.le_trans hB hx0.size) (by omega) hn hn2 (by have := HDs.out 0; omega) (by have := HDs.out 1; omega)).mono ?_
  rintro e w2 ⟨hnx2, h1, h2'⟩
  have r2 := r0.nx hnx2
  have e2 := e0.nx hnx2
  have hw2 := hx0.trans hnx2
  have hltR : gR < W.heap.size := hltR0
  have hlt2 := r2.lt
  clear r0 e0 z0 z1 hltR0
  cases hu : newU (rdU (readP ss ws 0)) (rdU (readP ss ws 1)) with
  | none =>
    have HA := Lib.hid (ldV_none hu)
    obtain rfl := h1 hu
    clear h1 h2' hu
    have r3 := r2.alloc (.cells #[.int .i64 0, .int .i64 0, .int .i64 0, .int .i64 0, .slice none 0 0, .slice none 0 0] 30)
    have hx3 := hw2.alloc (.cells #[.int .i64 0, .int .i64 0, .int .i64 0, .int .i64 0, .slice none 0 0, .slice none 0 0] 30)
    have rq := r3.row #[.int .i64 0, .int .i64 0, .int .i64 0, .int .i64 0, .slice none 0 0, .slice none 0 0, .slice none 0 0, .slice none 0 0]
    have hnf := hx3.setRow hgR #[.int .i64 0, .int .i64 0, .int .i64 0, .int .i64 0, .slice none 0 0, .slice none 0 0, .slice none 0 0, .slice none 0 0]
    go_wp2_with (refine wpList_store_row rfl _ _ _ rfl gR #[.int .i64 0, .int .i64 0, .int .i64 0, .int .i64 0, .slice none 0 0, .slice none 0 0, .slice none 0 0, .slice none 0 0] rfl rfl 33 #[.int .i64 0, .int .i64 0, .int .i64 0, .int .i64 0, .slice none 0 0, .slice none 0 0, .slice none 0 0, .slice none 0 0] r3 (by kernel_rfl) rfl (by simp [Value.oneCell']) ?_)
    generalize (w2.alloc (.cells #[.int .i64 0, .int .i64 0, .int .i64 0, .int .i64 0, .slice none 0 0, .slice none 0 0] 30)).setRow gR #[.int .i64 0, .int .i64 0, .int .i64 0, .int .i64 0, .slice none 0 0, .slice none 0 0, .slice none 0 0, .slice none 0 0] = Wf at *
    obtain ⟨g0, g1, g2, g3, g4, g5, g6, g7⟩ := rq.e8
    exact bodyPost_ret (v := .tuple #[.agg #[.int .i64 0, .int .i64 0, .int .i64 0, .int .i64 0, .slice none 0 0, .slice none 0 0, .slice none 0 0, .slice none 0 0], .int .i64 19]) (by simp [results, Tryz.results55, go_sem, g0, g1, g2, g3, g4, g5, g6, g7]) rfl ⟨zVl, w.heap.size, by rw [HA.out]; rfl, by rw [HA.out]; exact VlS.refl _, VlP.zero _ hnf.size, hnf⟩
  | some us =>
    obtain ⟨⟨g, b, p, q, xs, ms⟩, sl⟩ := us
    obtain ⟨Ax, cx, Am, cm, he, hcc, hS1, hM1⟩ := h2' _ _ hu
    replace he : e = .returned (.tuple #[.agg #[.int .i64 g, .int .i64 b, .int .i64 p, .int .i64 q, .slice Ax xs.length cx, .slice Am ms.length cm], .int .i64 sl]) := he
    replace hS1 : SlI w2 W.heap.size Ax xs := hS1
    replace hM1 : SlM w2 W.heap.size Am ms := hM1
    replace hcc : xs.length ≤ cx := hcc
    have HCC := Lib.hid hcc
    have HU := Lib.hid hu
    have hsup := newU_super hu
    have HSup := Lib.hid hsup
    have htb := (superB_yes hsup).2.2.2.2.1
    have hsl := newU_slot hu
    have hd0 : decide (sl < 0) = false := decide_eq_false (by rcases hsl with rfl | rfl <;> omega)
    subst he
    clear h1 h2' hu hcc hsup hsl
    have Hta := Lib.hid (fun k (hk : k < xs.length) => tb_at htb hk)
    have hm20 := (tbB_yes htb).1
    have HSn := Lib.hid (fun k gs q (h1 : GsTo ss ws xs k gs) (h2 : k < xs.length) (h3 : ldG ss ws (xs.getD k 0) = some q) (A c) => h1.snoc h2 h3 A c)
    have HSg := Lib.hid (fun k (hk : k < xs.length) (hno : ldG ss ws (xs.getD k 0) = none) => ldV_seg HU.out hk hno)
    have HIg := Lib.hid (fun k (hk : k < 8) (hno : ldI ss ws k = none) => ldV_img HU.out hk hno)
    have HTab := Lib.hid hS1
    have HMks := Lib.hid hM1
    have hT3 := hS1.row
    obtain ⟨m, Hm⟩ : ∃ m, Hid (xs.length = m) := ⟨_, rfl⟩
    have h3' : ∀ k, k < m → _ := fun k hk => (Ins.at_ (w := w2) (B := w2.heap.size) (A := Ax) (xs := xs) hT3 (k := k) (by rw [Hm.out]; exact hk))
    rw [Hm.out] at Hta hm20 HSn HSg
    clear htb hS1 hM1 hT3
    have s4 : Box ((((w2.alloc (.cells #[.int .i64 g, .int .i64 b, .int .i64 p, .int .i64 q, .slice Ax xs.length cx, .slice Am ms.length cm] 30)).alloc (.cells #[] 130)).alloc (.cells #[] 3)).alloc (.cells #[.int .i64 g, .int .i64 b, .int .i64 p, .int .i64 q, .slice Ax xs.length cx, .slice Am ms.length cm, .slice (some ⟨w2.heap.size + 1, 0, none⟩) 0 0, .slice (some ⟨w2.heap.size + 1 + 1, 0, none⟩) 0 0] 33)) w2.heap.size 30 #[.int .i64 g, .int .i64 b, .int .i64 p, .int .i64 q, .slice Ax xs.length cx, .slice Am ms.length cm] := (((Box.new w2 30 #[.int .i64 g, .int .i64 b, .int .i64 p, .int .i64 q, .slice Ax xs.length cx, .slice Am ms.length cm]).alloc _).alloc _).alloc _
    have v4 : Box ((((w2.alloc (.cells #[.int .i64 g, .int .i64 b, .int .i64 p, .int .i64 q, .slice Ax xs.length cx, .slice Am ms.length cm] 30)).alloc (.cells #[] 130)).alloc (.cells #[] 3)).alloc (.cells #[.int .i64 g, .int .i64 b, .int .i64 p, .int .i64 q, .slice Ax xs.length cx, .slice Am ms.length cm, .slice (some ⟨w2.heap.size + 1, 0, none⟩) 0 0, .slice (some ⟨w2.heap.size + 1 + 1, 0, none⟩) 0 0] 33)) (w2.heap.size + 1 + 1 + 1) 33 #[.int .i64 g, .int .i64 b, .int .i64 p, .int .i64 q, .slice Ax xs.length cx, .slice Am ms.length cm, .slice (some ⟨w2.heap.size + 1, 0, none⟩) 0 0, .slice (some ⟨w2.heap.size + 1 + 1, 0, none⟩) 0 0] := by have := Box.new (((w2.alloc (.cells #[.int .i64 g, .int .i64 b, .int .i64 p, .int .i64 q, .slice Ax xs.length cx, .slice Am ms.length cm] 30)).alloc (.cells #[] 130)).alloc (.cells #[] 3)) 33 #[.int .i64 g, .int .i64 b, .int .i64 p, .int .i64 q, .slice Ax xs.length cx, .slice Am ms.length cm, .slice (some ⟨w2.heap.size + 1, 0, none⟩) 0 0, .slice (some ⟨w2.heap.size + 1 + 1, 0, none⟩) 0 0]; rwa [World.size_alloc, World.size_alloc, World.size_alloc] at this
    have hrow4 : RowS ((((w2.alloc (.cells #[.int .i64 g, .int .i64 b, .int .i64 p, .int .i64 q, .slice Ax xs.length cx, .slice Am ms.length cm] 30)).alloc (.cells #[] 130)).alloc (.cells #[] 3)).alloc (.cells #[.int .i64 g, .int .i64 b, .int .i64 p, .int .i64 q, .slice Ax xs.length cx, .slice Am ms.length cm, .slice (some ⟨w2.heap.size + 1, 0, none⟩) 0 0, .slice (some ⟨w2.heap.size + 1 + 1, 0, none⟩) 0 0] 33)) w2.heap.size (.slice (some ⟨w2.heap.size + 1, 0, none⟩) 0 0) [] := by
      have := ((RowS.new (w2.alloc (.cells #[.int .i64 g, .int .i64 b, .int .i64 p, .int .i64 q, .slice Ax xs.length cx, .slice Am ms.length cm] 30)) (B := w2.heap.size) (by simp)).nx ((Nx.refl _).alloc (.cells #[] 3))).nx ((Nx.refl _).alloc (.cells #[.int .i64 g, .int .i64 b, .int .i64 p, .int .i64 q, .slice Ax xs.length cx, .slice Am ms.length cm, .slice (some ⟨w2.heap.size + 1, 0, none⟩) 0 0, .slice (some ⟨w2.heap.size + 1 + 1, 0, none⟩) 0 0] 33))
      rwa [World.size_alloc] at this
    have hint4 : Box ((((w2.alloc (.cells #[.int .i64 g, .int .i64 b, .int .i64 p, .int .i64 q, .slice Ax xs.length cx, .slice Am ms.length cm] 30)).alloc (.cells #[] 130)).alloc (.cells #[] 3)).alloc (.cells #[.int .i64 g, .int .i64 b, .int .i64 p, .int .i64 q, .slice Ax xs.length cx, .slice Am ms.length cm, .slice (some ⟨w2.heap.size + 1, 0, none⟩) 0 0, .slice (some ⟨w2.heap.size + 1 + 1, 0, none⟩) 0 0] 33)) (w2.heap.size + 1 + 1) 3 #[] := by
      have := (Box.new ((w2.alloc (.cells #[.int .i64 g, .int .i64 b, .int .i64 p, .int .i64 q, .slice Ax xs.length cx, .slice Am ms.length cm] 30)).alloc (.cells #[] 130)) 3 #[]).alloc (.cells #[.int .i64 g, .int .i64 b, .int .i64 p, .int .i64 q, .slice Ax xs.length cx, .slice Am ms.length cm, .slice (some ⟨w2.heap.size + 1, 0, none⟩) 0 0, .slice (some ⟨w2.heap.size + 1 + 1, 0, none⟩) 0 0] 33)
      rwa [World.size_alloc, World.size_alloc] at this
    have hN4 : Nx w2 ((((w2.alloc (.cells #[.int .i64 g, .int .i64 b, .int .i64 p, .int .i64 q, .slice Ax xs.length cx, .slice Am ms.length cm] 30)).alloc (.cells #[] 130)).alloc (.cells #[] 3)).alloc (.cells #[.int .i64 g, .int .i64 b, .int .i64 p, .int .i64 q, .slice Ax xs.length cx, .slice Am ms.length cm, .slice (some ⟨w2.heap.size + 1, 0, none⟩) 0 0, .slice (some ⟨w2.heap.size + 1 + 1, 0, none⟩) 0 0] 33)) := ((((Nx.refl w2).alloc _).alloc _).alloc _).alloc _
    have y6 := s4.d6
    have z0 := (e2.nx hN4).c0
    have z1 := (e2.nx hN4).c1
    rw [Hm.out] at s4 v4 hrow4 hint4 hN4 y6 z0 z1 ⊢
    obtain ⟨y0, y1, y2, y3, y4, y5⟩ := y6
    go_wp2_with fail
    clear y0 y1 y2 y3 y4 y5 z0 z1
    generalize ((((w2.alloc (.cells #[.int .i64 g, .int .i64 b, .int .i64 p, .int .i64 q, .slice Ax m cx, .slice Am ms.length cm] 30)).alloc (.cells #[] 130)).alloc (.cells #[] 3)).alloc (.cells #[.int .i64 g, .int .i64 b, .int .i64 p, .int .i64 q, .slice Ax m cx, .slice Am ms.length cm, .slice (some ⟨w2.heap.size + 1, 0, none⟩) 0 0, .slice (some ⟨w2.heap.size + 1 + 1, 0, none⟩) 0 0] 33)) = W4 at *
    obtain ⟨gS, HgS⟩ : ∃ g, Hid (w2.heap.size = g) := ⟨_, rfl⟩
    obtain ⟨gA, HgA⟩ : ∃ g, Hid (w2.heap.size + 1 = g) := ⟨_, rfl⟩
    obtain ⟨gI, HgI⟩ : ∃ g, Hid (w2.heap.size + 1 + 1 = g) := ⟨_, rfl⟩
    obtain ⟨gV, HgV⟩ : ∃ g, Hid (w2.heap.size + 1 + 1 + 1 = g) := ⟨_, rfl⟩
    have hgV2 : w2.heap.size ≤ gV := by have := HgV.out; omega
    have hgSV : gS ≠ gV := by have := HgV.out; have := HgS.out; omega
    rw [HgV.out, HgI.out, HgA.out] at v4
    rw [HgA.out] at hrow4
    rw [HgI.out] at hint4
    replace s4 : Box W4 gS 30 #[.int .i64 g, .int .i64 b, .int .i64 p, .int .i64 q, .slice Ax m cx, .slice Am ms.length cm] := by rw [← HgS.out]; exact s4
    rw [HgV.out, HgS.out]
    go_loopw [7] (fun i wr => ∃ (k : Nat) (gs : List SgR) (u : Value), k ≤ m ∧ i = .int .i64 k ∧ RowS wr w2.heap.size u gs ∧ ChO wr w2.heap.size gs ∧ Dj gs ∧ GsTo ss ws xs k gs ∧ Nx w2 wr ∧ Box wr gS 30 #[.int .i64 g, .int .i64 b, .int .i64 p, .int .i64 q, .slice Ax m cx, .slice Am ms.length cm] ∧ Box wr gV 33 #[.int .i64 g, .int .i64 b, .int .i64 p, .int .i64 q, .slice Ax m cx, .slice Am ms.length cm, u, .slice (some ⟨gI, 0, none⟩) 0 0] ∧ Box wr gI 3 #[]) (fun i _ => m - (intOf i).toNat)
    case atStart => exact ⟨0, [], _, by omega, rfl, hrow4, ChO.nil _ _, Dj.nil, GsTo.nil _ _ _, hN4, s4, v4, hint4⟩
    case round =>
      obtain ⟨k, gs, u, hk, rfl, hrow, hcho, hdj, hgs, hN, bS, bV, bI⟩ := hrel
      clear s4 v4 hrow4 hint4 hN4
      have HDj := Lib.hid hdj
      have HGs := Lib.hid hgs
      have Hlen := Lib.hid hgs.len
      clear hdj hgs
      have y4 := bS.d6.2.2.2.2.1
      by_cases hlt : k < m
      case neg =>
        obtain rfl : m = k := by omega
        have HGm : Hid (GsTo ss ws xs xs.length gs) := Lib.hid (by rw [Hm.out]; exact HGs.out)
        obtain ⟨Ag, cg, rfl, hcg, hSg⟩ := hrow.sgoc hcho
        have HCG := Lib.hid hcg
        have HI0 : RowI wr w2.heap.size (.slice (some ⟨gI, 0, none⟩) 0 0) [] := ⟨rfl, .inr ⟨gI, 0, #[], rfl, by have := HgI.out; omega, bI, by simp, by unfold maxLen; omega, rfl, rfl⟩⟩
        obtain ⟨ng, Hng⟩ : ∃ q, Hid (gs.length = q) := ⟨_, rfl⟩
        have hng9 : ng ≤ 20 := by have := Hng.out; have := Hlen.out; omega
        rw [Hng.out] at bV
        clear hcg hrow hcho
        go_wp2_with fail
        clear y4 bI
        go_loopw [10] (fun i wr => ∃ (j : Nat) (im : List Int) (u : Value), j ≤ 8 ∧ i = .int .i64 j ∧ RowI wr w2.heap.size u im ∧ ImTo ss ws j im ∧ SgO wr w2.heap.size Ag gs ∧ Nx w2 wr ∧ Box wr gS 30 #[.int .i64 g, .int .i64 b, .int .i64 p, .int .i64 q, .slice Ax m cx, .slice Am ms.length cm] ∧ Box wr gV 33 #[.int .i64 g, .int .i64 b, .int .i64 p, .int .i64 q, .slice Ax m cx, .slice Am ms.length cm, .slice Ag ng cg, u]) (fun i _ => 8 - (intOf i).toNat)
        case atStart => exact ⟨0, [], _, by omega, rfl, HI0, ImTo.nil _ _, hSg, hN, bS, bV⟩
        case round =>
          obtain ⟨j, im, u, hj, rfl, hri, him, hSg2, hN2, bS2, bV2⟩ := hrel
          clear HI0 hSg hN bS bV
          have HIm := Lib.hid him
          have HlenI := Lib.hid him.len
          clear him
          have eR := e2.nx hN2
          by_cases hlt : j < 8
          case neg =>
            obtain rfl : j = 8 := by omega
            obtain ⟨Ai, ci, rfl, hci, hSi⟩ := hri.slc
            have HIl : Hid (im.length = 8) := Lib.hid HlenI.out
            have r5 := r2.nx hN2
            have hx5 := hw2.trans hN2
            have hP6 : VlP wr W.heap.size w2.heap.size wr.heap.size ⟨g, b, p, q, Ax, cx, xs, Am, cm, ms, Ag, cg, gs, Ai, ci, im⟩ :=
              ⟨HTab.out.sr.nx hN2, HMks.out.sr.nx hN2, hSg2.row.sr, fun k hk => (hSg2.chs k hk).sr, hSi.sr, HDj.out, HCC.out, HCG.out, hnx2.size, hN2.size⟩
            obtain ⟨x0, x1, x2, x3, x4, x5, x6, x7⟩ := bV2.e8
            obtain ⟨hNs, hAm⟩ := ld_small HD.out HSup.out HGm.out HIm.out Ax cx Am cm Ag cg Ai ci
            have HW := Lib.hid (ldW_s (g := g) (b := b) (p := p) (t := q) (ms := ms) HGm.out HIm.out Ax cx Am cm Ag cg Ai ci)
            have HOk := Lib.hid (ldOk_of (u := (g, b, p, q, xs, ms)) HGm.out HIm.out)
            have hcall := specVaultOK_c ⟨g, b, p, q, Ax, cx, xs, Am, cm, ms, Ag, cg, gs, Ai, ci, im⟩ wr.heap.size wr (hP6.own.vlt) (Nat.le_refl _) hNs HCC.out hAm
            simp only [Vl.v, Vl.cells] at hcall
            rw [Hm.out, Hng.out] at hcall
            have HCl := Lib.hid hcall
            clear hcall hNs hAm hri hSg2 hSi
            go_wp2_with fail
            refine HCl.out.mono ?_
            rintro e w7 ⟨rfl, hk7⟩
            rw [← HW.out.ok]
            have r7 := r5.nx hk7
            have hx7 := hx5.trans hk7
            have hP7 := (hP6.nx hk7).up hk7.size
            have v7 := bV2.nx hk7
            clear r5 hx5 hP6 bV2 bS2 x0 x1 x2 x3 x4 x5 x6 x7 HCl
            obtain ⟨x0, x1, x2, x3, x4, x5, x6, x7⟩ := v7.e8
            cases hv : (ldW ss ws (g, b, p, q, xs, ms)).ok with
            | false =>
              have HA := Lib.hid (ldV_wrong HU.out hv)
              clear hv x0 x1 x2 x3 x4 x5 x6 x7
              have rq := r7.row #[.int .i64 0, .int .i64 0, .int .i64 0, .int .i64 0, .slice none 0 0, .slice none 0 0, .slice none 0 0, .slice none 0 0]
              have hnf := hx7.setRow hgR #[.int .i64 0, .int .i64 0, .int .i64 0, .int .i64 0, .slice none 0 0, .slice none 0 0, .slice none 0 0, .slice none 0 0]
              go_wp2_with (refine wpList_store_row rfl _ _ _ rfl gR #[.int .i64 0, .int .i64 0, .int .i64 0, .int .i64 0, .slice none 0 0, .slice none 0 0, .slice none 0 0, .slice none 0 0] rfl rfl 33 #[.int .i64 0, .int .i64 0, .int .i64 0, .int .i64 0, .slice none 0 0, .slice none 0 0, .slice none 0 0, .slice none 0 0] r7 (by kernel_rfl) rfl (by simp [Value.oneCell']) ?_)
              generalize w7.setRow gR #[.int .i64 0, .int .i64 0, .int .i64 0, .int .i64 0, .slice none 0 0, .slice none 0 0, .slice none 0 0, .slice none 0 0] = Wf at *
              obtain ⟨g0, g1, g2, g3, g4, g5, g6, g7⟩ := rq.e8
              exact bodyPost_ret (v := .tuple #[.agg #[.int .i64 0, .int .i64 0, .int .i64 0, .int .i64 0, .slice none 0 0, .slice none 0 0, .slice none 0 0, .slice none 0 0], .int .i64 10]) (by simp [results, Tryz.results55, go_sem, g0, g1, g2, g3, g4, g5, g6, g7]) rfl ⟨zVl, w.heap.size, by rw [HA.out]; rfl, by rw [HA.out]; exact VlS.refl _, VlP.zero _ hnf.size, hnf⟩
            | true =>
              have HA := Lib.hid (ldV_yes HU.out HOk.out hv)
              clear hv
              have rq := r7.row #[.int .i64 g, .int .i64 b, .int .i64 p, .int .i64 q, .slice Ax m cx, .slice Am ms.length cm, .slice Ag ng cg, .slice Ai im.length ci]
              have hnf := hx7.setRow hgR #[.int .i64 g, .int .i64 b, .int .i64 p, .int .i64 q, .slice Ax m cx, .slice Am ms.length cm, .slice Ag ng cg, .slice Ai im.length ci]
              have hvf := hP7.rowfar hltR #[.int .i64 g, .int .i64 b, .int .i64 p, .int .i64 q, .slice Ax m cx, .slice Am ms.length cm, .slice Ag ng cg, .slice Ai im.length ci]
              have hzf := size_setRow w7 gR #[.int .i64 g, .int .i64 b, .int .i64 p, .int .i64 q, .slice Ax m cx, .slice Am ms.length cm, .slice Ag ng cg, .slice Ai im.length ci]
              go_wp2_with (refine wpList_store_row rfl _ _ _ rfl gR #[.int .i64 g, .int .i64 b, .int .i64 p, .int .i64 q, .slice Ax m cx, .slice Am ms.length cm, .slice Ag ng cg, .slice Ai im.length ci] rfl rfl 33 #[.int .i64 0, .int .i64 0, .int .i64 0, .int .i64 0, .slice none 0 0, .slice none 0 0, .slice none 0 0, .slice none 0 0] r7 (by kernel_rfl) rfl (by simp [Value.oneCell']) ?_)
              generalize w7.setRow gR #[.int .i64 g, .int .i64 b, .int .i64 p, .int .i64 q, .slice Ax m cx, .slice Am ms.length cm, .slice Ag ng cg, .slice Ai im.length ci] = Wf at *
              obtain ⟨g0, g1, g2, g3, g4, g5, g6, g7⟩ := rq.e8
              exact bodyPost_ret (v := .tuple #[.agg #[.int .i64 g, .int .i64 b, .int .i64 p, .int .i64 q, .slice Ax m cx, .slice Am ms.length cm, .slice Ag ng cg, .slice Ai im.length ci], .int .i64 0]) (by simp [results, Tryz.results55, go_sem, g0, g1, g2, g3, g4, g5, g6, g7]) rfl ⟨⟨g, b, p, q, Ax, cx, xs, Am, cm, ms, Ag, cg, gs, Ai, ci, im⟩, w2.heap.size, by rw [HA.out]; unfold Vl.v Vl.cells; simp only; rw [Hm.out, Hng.out], by rw [HA.out]; exact HW.out, (hvf.low hx0.size).up (by omega), hnf⟩
          have HJ : Hid (ldI ss ws j = oneN (rdN (readP ss ws (2 + j)))) := Lib.hid rfl
          have z0 := eR.c0
          have z1 := eR.c1
          go_wp2_with fail
          rw [show ((2 : Int) + (j : Int)) = ((2 + j : Nat) : Int) by omega]
          refine (l01Read_c A A2 n c n2 c2 B (2 + j) ss ws _ (h.below (hw2.trans hN2) hB) (h2.below (hw2.trans hN2) hB) (Nat.le_trans hB (hw2.trans hN2).size) (by omega) hn hn2).mono ?_
          rintro e w5 ⟨rfl, hk5⟩
          clear z0 z1
          go_wp2_with fail
          refine (l02Open_c (readP ss ws (2 + j)) _ (by have := HDs.out (2 + j); omega)).mono ?_
          rintro e w6 ⟨x, rfl, hxs, hxo, hk6⟩
          have hx9 : x.size ≤ 65536 := by have := HDs.out (2 + j); omega
          have HXo := Lib.hid hxo
          clear hxo hxs
          go_wp2_with fail
          refine (l02Numbers_c x _ hx9).mono ?_
          rintro e w8 ⟨An, nn, cn, rfl, hyes, hk8⟩
          have hk := (hk5.trans hk6).trans hk8
          have hri8 := hri.nx hk
          have hSg8 := hSg2.nx hk
          have hN8 := hN2.trans hk
          have bS8 := bS2.nx hk
          have bV8 := bV2.nx hk
          have r8 := r2.nx hN8
          have hx8 := hw2.trans hN8
          clear hri hSg2 hN2 bS2 bV2 eR hk hk5 hk6 hk8
          cases ho : opensB (readP ss ws (2 + j)) with
          | false =>
            have HA : Hid (ldV ss ws = (zVl, 10)) := Lib.hid (HIg.out j hlt (by rw [HJ.out, rdN_no ho]; rfl))
            clear ho hyes
            have rq := r8.row #[.int .i64 0, .int .i64 0, .int .i64 0, .int .i64 0, .slice none 0 0, .slice none 0 0, .slice none 0 0, .slice none 0 0]
            have hnf := hx8.setRow hgR #[.int .i64 0, .int .i64 0, .int .i64 0, .int .i64 0, .slice none 0 0, .slice none 0 0, .slice none 0 0, .slice none 0 0]
            go_wp2_with (refine wpList_store_row rfl _ _ _ rfl gR #[.int .i64 0, .int .i64 0, .int .i64 0, .int .i64 0, .slice none 0 0, .slice none 0 0, .slice none 0 0, .slice none 0 0] rfl rfl 33 #[.int .i64 0, .int .i64 0, .int .i64 0, .int .i64 0, .slice none 0 0, .slice none 0 0, .slice none 0 0, .slice none 0 0] r8 (by kernel_rfl) rfl (by simp [Value.oneCell']) ?_)
            generalize w8.setRow gR #[.int .i64 0, .int .i64 0, .int .i64 0, .int .i64 0, .slice none 0 0, .slice none 0 0, .slice none 0 0, .slice none 0 0] = Wf at *
            obtain ⟨g0, g1, g2, g3, g4, g5, g6, g7⟩ := rq.e8
            exact bodyPost_ret (v := .tuple #[.agg #[.int .i64 0, .int .i64 0, .int .i64 0, .int .i64 0, .slice none 0 0, .slice none 0 0, .slice none 0 0, .slice none 0 0], .int .i64 10]) (by simp [results, Tryz.results55, go_sem, g0, g1, g2, g3, g4, g5, g6, g7]) rfl ⟨zVl, w.heap.size, by rw [HA.out]; rfl, by rw [HA.out]; exact VlS.refl _, VlP.zero _ hnf.size, hnf⟩
          | true =>
            obtain rfl := HXo.out ho
            cases hr : numsO (bodyOf (readP ss ws (2 + j))).data.toList with
            | none =>
              have HA : Hid (ldV ss ws = (zVl, 10)) := Lib.hid (HIg.out j hlt (by rw [HJ.out, rdN_yes ho, hr]; rfl))
              clear ho hr hyes
              simp only [Option.isSome_none]
              have rq := r8.row #[.int .i64 0, .int .i64 0, .int .i64 0, .int .i64 0, .slice none 0 0, .slice none 0 0, .slice none 0 0, .slice none 0 0]
              have hnf := hx8.setRow hgR #[.int .i64 0, .int .i64 0, .int .i64 0, .int .i64 0, .slice none 0 0, .slice none 0 0, .slice none 0 0, .slice none 0 0]
              go_wp2_with (refine wpList_store_row rfl _ _ _ rfl gR #[.int .i64 0, .int .i64 0, .int .i64 0, .int .i64 0, .slice none 0 0, .slice none 0 0, .slice none 0 0, .slice none 0 0] rfl rfl 33 #[.int .i64 0, .int .i64 0, .int .i64 0, .int .i64 0, .slice none 0 0, .slice none 0 0, .slice none 0 0, .slice none 0 0] r8 (by kernel_rfl) rfl (by simp [Value.oneCell']) ?_)
              generalize w8.setRow gR #[.int .i64 0, .int .i64 0, .int .i64 0, .int .i64 0, .slice none 0 0, .slice none 0 0, .slice none 0 0, .slice none 0 0] = Wf at *
              obtain ⟨g0, g1, g2, g3, g4, g5, g6, g7⟩ := rq.e8
              exact bodyPost_ret (v := .tuple #[.agg #[.int .i64 0, .int .i64 0, .int .i64 0, .int .i64 0, .slice none 0 0, .slice none 0 0, .slice none 0 0, .slice none 0 0], .int .i64 10]) (by simp [results, Tryz.results55, go_sem, g0, g1, g2, g3, g4, g5, g6, g7]) rfl ⟨zVl, w.heap.size, by rw [HA.out]; rfl, by rw [HA.out]; exact VlS.refl _, VlP.zero _ hnf.size, hnf⟩
            | some ns =>
              obtain ⟨rfl, hR, hcn⟩ := hyes ns hr
              by_cases h1 : ns.length = 1
              case neg =>
                have HA : Hid (ldV ss ws = (zVl, 10)) := Lib.hid (HIg.out j hlt (by rw [HJ.out, rdN_yes ho, hr]; exact oneN_no h1))
                have hne : ((ns.length : Int) != 1) = true := by rw [bne_iff_ne]; omega
                clear ho hr hyes hR
                simp only [Option.isSome_some]
                have rq := r8.row #[.int .i64 0, .int .i64 0, .int .i64 0, .int .i64 0, .slice none 0 0, .slice none 0 0, .slice none 0 0, .slice none 0 0]
                have hnf := hx8.setRow hgR #[.int .i64 0, .int .i64 0, .int .i64 0, .int .i64 0, .slice none 0 0, .slice none 0 0, .slice none 0 0, .slice none 0 0]
                go_wp2_with (refine wpList_store_row rfl _ _ _ rfl gR #[.int .i64 0, .int .i64 0, .int .i64 0, .int .i64 0, .slice none 0 0, .slice none 0 0, .slice none 0 0, .slice none 0 0] rfl rfl 33 #[.int .i64 0, .int .i64 0, .int .i64 0, .int .i64 0, .slice none 0 0, .slice none 0 0, .slice none 0 0, .slice none 0 0] r8 (by kernel_rfl) rfl (by simp [Value.oneCell']) ?_)
                generalize w8.setRow gR #[.int .i64 0, .int .i64 0, .int .i64 0, .int .i64 0, .slice none 0 0, .slice none 0 0, .slice none 0 0, .slice none 0 0] = Wf at *
                obtain ⟨g0, g1, g2, g3, g4, g5, g6, g7⟩ := rq.e8
                exact bodyPost_ret (v := .tuple #[.agg #[.int .i64 0, .int .i64 0, .int .i64 0, .int .i64 0, .slice none 0 0, .slice none 0 0, .slice none 0 0, .slice none 0 0], .int .i64 10]) (by simp [results, Tryz.results55, go_sem, g0, g1, g2, g3, g4, g5, g6, g7]) rfl ⟨zVl, w.heap.size, by rw [HA.out]; rfl, by rw [HA.out]; exact VlS.refl _, VlP.zero _ hnf.size, hnf⟩
              obtain ⟨x, rfl⟩ : ∃ x, ns = [x] := by
                match ns, h1 with
                | [x], _ => exact ⟨x, rfl⟩
              have HF : Hid (ldI ss ws j = some (x : Int)) := Lib.hid (by rw [HJ.out, rdN_yes ho, hr]; rfl)
              obtain ⟨bb, off, rfl, hbb, hcell⟩ := hR (by simp)
              have p0 : w8.cell? ⟨bb, off, none⟩ = some (.int .i64 (x : Int)) := hcell 0 (by simp)
              have HI1 := Lib.hid (HIm.out.snoc HF.out)
              clear ho hr hyes hR hcell h1
              simp only [Option.isSome_some, List.length_cons, List.length_nil, Nat.zero_add] at hcn ⊢
              go_wp2_with fail
              have hxd : Nx w8 w8.drew := (Nx.refl w8).drew
              have hriD := hri8.nx hxd
              have hSgD := hSg8.nx hxd
              have hND := hN8.trans hxd
              have bSD := bS8.nx hxd
              have bVD := bV8.nx hxd
              have p0D : w8.drew.cell? ⟨bb, off, none⟩ = some (.int .i64 (x : Int)) := p0
              clear p0 hri8 hSg8 hN8 bS8 bV8 hxd r8 hx8
              refine wp_region_plan (.t 0 (.t 2 (.t 3 (.b 1 (.c 4 (.c 5 (.c 6 (.t 7 (.c 8 .e))))) 4 (.b 1 (.c 5 (.c 6 (.t 7 (.c 8 .e)))) 5 (.c 1 (.c 6 (.t 7 (.c 8 .e))))))))) (fun _ => True) (by kernel_rfl) (by kernel_rfl) rfl (by kernel_rfl) (fun _ _ d _ _ h => by cases d <;> exact h) trivial ?_
              simp only [psOf, List.getD_cons_zero, List.getD_cons_succ]
              generalize w8.drew = W0 at *
              have hz3 := (Nx.refl W0).alloc (.cells #[.int .i64 (x : Int)] 3)
              have HR3 := Lib.hid (hriD.nx hz3)
              have HB3 := Lib.hid (Box.new W0 3 #[.int .i64 (x : Int)])
              have bVA := bVD.nx hz3
              have bSA := bSD.nx hz3
              have hSgA := hSgD.nx hz3
              have hNA := hND.trans hz3
              have hsz3 := hNA.size
              have hl9 : im.length ≤ 1048576 := by have := HlenI.out; omega
              obtain ⟨_, _, _, _, _, _, _, x7⟩ := bVD.e8
              obtain ⟨_, _, _, _, _, _, _, x7a⟩ := bVA.e8
              clear hriD hSgD hND bSD hz3
              repeat (first | (refine HP.take (v := ?_) (by rfl) ?_ ?_; rotate_left; (· (intro w hSw; (try dsimp only at hSw); go_simp; try with_reducible rfl)); (try simp only [Act.put, List.setIfInBounds_toArray, List.set_cons_zero, List.set_cons_succ])) | (refine HP.skip (by rfl) ?_; (try simp only [Act.put, List.setIfInBounds_toArray, List.set_cons_zero, List.set_cons_succ])))
              refine HP.both ?_ ?_
              · refine CallStep.mk (by rfl) (fun K hK => ?_)
                go_simp
                refine hK.out _ _ (by exact trivial) ?_
                clear hK K
                try simp only [Act.put, List.setIfInBounds_toArray, List.set_cons_zero, List.set_cons_succ]
                refine HP.call ?_
                refine CallStep.mk (by rfl) (fun K hK => ?_)
                go_simp
                refine hK.out _ _ (by exact trivial) ?_
                clear hK K
                try simp only [Act.put, List.setIfInBounds_toArray, List.set_cons_zero, List.set_cons_succ]
                refine HP.call ?_
                refine CallStep.mk (by rfl) (fun K hK => ?_)
                go_simp
                refine hK.out _ _ (by exact trivial) ?_
                clear hK K
                try simp only [Act.put, List.setIfInBounds_toArray, List.set_cons_zero, List.set_cons_succ]
                refine HP.call ?_
                refine CallStep.mk (by rfl) (fun K hK => ?_)
                refine wp_addI _ _ rfl w2.heap.size W0.heap.size _ im (x : Int) rfl rfl HR3.out HB3.out hl9 hsz3 ?_
                intro A9 k9 w9 hr9 hgr
                have hN9 := hgr.nx w2 hNA (Nat.le_refl _)
                have bV9 := hgr.box _ _ _ (by decide) bVA
                have bS9 := hgr.box _ _ _ (by decide) bSA
                have hSg9 : SgO w9 w2.heap.size Ag gs := ⟨hSgA.row.grew hgr (by decide), fun k hk => (hSgA.chs k hk).grew hgr (by decide)⟩
                clear HR3 HB3 hgr bVA bSA hSgA hNA x7 x7a p0D bVD hsz3
                obtain ⟨_, _, _, _, _, _, _, x7⟩ := bV9.e8
                have xf7 := bV9.frozen 7
                refine hK.out _ _ (by exact trivial) ?_
                clear hK K
                try simp only [Act.put]
                repeat (first | (refine HP.take (v := ?_) (by rfl) ?_ ?_; rotate_left; (· (intro w hSw; (try dsimp only at hSw); go_simp; try with_reducible rfl)); (try simp only [Act.put, List.setIfInBounds_toArray, List.set_cons_zero, List.set_cons_succ])) | (refine HP.skip (by rfl) ?_; (try simp only [Act.put, List.setIfInBounds_toArray, List.set_cons_zero, List.set_cons_succ])))
                refine HP.call ?_
                have HriZ := Lib.hid (hr9.farB (i := 7) bV9 (by decide) (.slice A9 (im.length + 1) k9))
                have HSgZ := Lib.hid (hSg9.farB (i := 7) bV9 (by decide) (by decide) (.slice A9 (im.length + 1) k9))
                have HNZ := Lib.hid (hN9.setCell (p := ⟨gV, 7, none⟩) hgV2 (.slice A9 (im.length + 1) k9))
                have HSZ := Lib.hid (bS9.far (p := ⟨gV, 7, none⟩) hgSV (.slice A9 (im.length + 1) k9))
                have HVZ := Lib.hid (bV9.set 7 (.slice A9 (im.length + 1) k9))
                clear hr9 hSg9 hN9 bS9
                refine CallStep.mk (by rfl) (fun K hK => ?_)
                go_simp
                refine hK.out _ _ (by exact trivial) ?_
                clear hK K
                try simp only [Act.put, List.setIfInBounds_toArray, List.set_cons_zero, List.set_cons_succ]
                refine HP.done ?_
                go_wp2
                go_roundw
                case rel => exact ⟨j + 1, im ++ [(x : Int)], _, by omega, by go_num, HriZ.out, HI1.out, HSgZ.out, HNZ.out, HSZ.out, HVZ.out⟩
                case measure => simp [intOf]; omega
              · refine CallStep.mk (by rfl) (fun K hK => ?_)
                go_simp
                refine hK.out _ _ (by exact trivial) ?_
                clear hK K
                try simp only [Act.put, List.setIfInBounds_toArray, List.set_cons_zero, List.set_cons_succ]
                refine HP.both ?_ ?_
                · refine CallStep.mk (by rfl) (fun K hK => ?_)
                  go_simp
                  refine hK.out _ _ (by exact trivial) ?_
                  clear hK K
                  try simp only [Act.put, List.setIfInBounds_toArray, List.set_cons_zero, List.set_cons_succ]
                  refine HP.call ?_
                  refine CallStep.mk (by rfl) (fun K hK => ?_)
                  go_simp
                  refine hK.out _ _ (by exact trivial) ?_
                  clear hK K
                  try simp only [Act.put, List.setIfInBounds_toArray, List.set_cons_zero, List.set_cons_succ]
                  refine HP.call ?_
                  refine CallStep.mk (by rfl) (fun K hK => ?_)
                  refine wp_addI _ _ rfl w2.heap.size W0.heap.size _ im (x : Int) rfl rfl HR3.out HB3.out hl9 hsz3 ?_
                  intro A9 k9 w9 hr9 hgr
                  have hN9 := hgr.nx w2 hNA (Nat.le_refl _)
                  have bV9 := hgr.box _ _ _ (by decide) bVA
                  have bS9 := hgr.box _ _ _ (by decide) bSA
                  have hSg9 : SgO w9 w2.heap.size Ag gs := ⟨hSgA.row.grew hgr (by decide), fun k hk => (hSgA.chs k hk).grew hgr (by decide)⟩
                  clear HR3 HB3 hgr bVA bSA hSgA hNA x7 x7a p0D bVD hsz3
                  obtain ⟨_, _, _, _, _, _, _, x7⟩ := bV9.e8
                  have xf7 := bV9.frozen 7
                  refine hK.out _ _ (by exact trivial) ?_
                  clear hK K
                  try simp only [Act.put]
                  repeat (first | (refine HP.take (v := ?_) (by rfl) ?_ ?_; rotate_left; (· (intro w hSw; (try dsimp only at hSw); go_simp; try with_reducible rfl)); (try simp only [Act.put, List.setIfInBounds_toArray, List.set_cons_zero, List.set_cons_succ])) | (refine HP.skip (by rfl) ?_; (try simp only [Act.put, List.setIfInBounds_toArray, List.set_cons_zero, List.set_cons_succ])))
                  refine HP.call ?_
                  have HriZ := Lib.hid (hr9.farB (i := 7) bV9 (by decide) (.slice A9 (im.length + 1) k9))
                  have HSgZ := Lib.hid (hSg9.farB (i := 7) bV9 (by decide) (by decide) (.slice A9 (im.length + 1) k9))
                  have HNZ := Lib.hid (hN9.setCell (p := ⟨gV, 7, none⟩) hgV2 (.slice A9 (im.length + 1) k9))
                  have HSZ := Lib.hid (bS9.far (p := ⟨gV, 7, none⟩) hgSV (.slice A9 (im.length + 1) k9))
                  have HVZ := Lib.hid (bV9.set 7 (.slice A9 (im.length + 1) k9))
                  clear hr9 hSg9 hN9 bS9
                  refine CallStep.mk (by rfl) (fun K hK => ?_)
                  go_simp
                  refine hK.out _ _ (by exact trivial) ?_
                  clear hK K
                  try simp only [Act.put, List.setIfInBounds_toArray, List.set_cons_zero, List.set_cons_succ]
                  refine HP.done ?_
                  go_wp2
                  go_roundw
                  case rel => exact ⟨j + 1, im ++ [(x : Int)], _, by omega, by go_num, HriZ.out, HI1.out, HSgZ.out, HNZ.out, HSZ.out, HVZ.out⟩
                  case measure => simp [intOf]; omega
                · refine CallStep.mk (by rfl) (fun K hK => ?_)
                  go_simp
                  refine hK.out _ _ (by exact trivial) ?_
                  clear hK K
                  try simp only [Act.put, List.setIfInBounds_toArray, List.set_cons_zero, List.set_cons_succ]
                  refine HP.call ?_
                  refine CallStep.mk (by rfl) (fun K hK => ?_)
                  go_simp
                  refine hK.out _ _ (by exact trivial) ?_
                  clear hK K
                  try simp only [Act.put, List.setIfInBounds_toArray, List.set_cons_zero, List.set_cons_succ]
                  refine HP.call ?_
                  refine CallStep.mk (by rfl) (fun K hK => ?_)
                  refine wp_addI _ _ rfl w2.heap.size W0.heap.size _ im (x : Int) rfl rfl HR3.out HB3.out hl9 hsz3 ?_
                  intro A9 k9 w9 hr9 hgr
                  have hN9 := hgr.nx w2 hNA (Nat.le_refl _)
                  have bV9 := hgr.box _ _ _ (by decide) bVA
                  have bS9 := hgr.box _ _ _ (by decide) bSA
                  have hSg9 : SgO w9 w2.heap.size Ag gs := ⟨hSgA.row.grew hgr (by decide), fun k hk => (hSgA.chs k hk).grew hgr (by decide)⟩
                  clear HR3 HB3 hgr bVA bSA hSgA hNA x7 x7a p0D bVD hsz3
                  obtain ⟨_, _, _, _, _, _, _, x7⟩ := bV9.e8
                  have xf7 := bV9.frozen 7
                  refine hK.out _ _ (by exact trivial) ?_
                  clear hK K
                  try simp only [Act.put]
                  repeat (first | (refine HP.take (v := ?_) (by rfl) ?_ ?_; rotate_left; (· (intro w hSw; (try dsimp only at hSw); go_simp; try with_reducible rfl)); (try simp only [Act.put, List.setIfInBounds_toArray, List.set_cons_zero, List.set_cons_succ])) | (refine HP.skip (by rfl) ?_; (try simp only [Act.put, List.setIfInBounds_toArray, List.set_cons_zero, List.set_cons_succ])))
                  refine HP.call ?_
                  have HriZ := Lib.hid (hr9.farB (i := 7) bV9 (by decide) (.slice A9 (im.length + 1) k9))
                  have HSgZ := Lib.hid (hSg9.farB (i := 7) bV9 (by decide) (by decide) (.slice A9 (im.length + 1) k9))
                  have HNZ := Lib.hid (hN9.setCell (p := ⟨gV, 7, none⟩) hgV2 (.slice A9 (im.length + 1) k9))
                  have HSZ := Lib.hid (bS9.far (p := ⟨gV, 7, none⟩) hgSV (.slice A9 (im.length + 1) k9))
                  have HVZ := Lib.hid (bV9.set 7 (.slice A9 (im.length + 1) k9))
                  clear hr9 hSg9 hN9 bS9
                  refine CallStep.mk (by rfl) (fun K hK => ?_)
                  go_simp
                  refine hK.out _ _ (by exact trivial) ?_
                  clear hK K
                  try simp only [Act.put, List.setIfInBounds_toArray, List.set_cons_zero, List.set_cons_succ]
                  refine HP.done ?_
                  go_wp2
                  go_roundw
                  case rel => exact ⟨j + 1, im ++ [(x : Int)], _, by omega, by go_num, HriZ.out, HI1.out, HSgZ.out, HNZ.out, HSZ.out, HVZ.out⟩
                  case measure => simp [intOf]; omega
      obtain ⟨a, ha, ha1, ha2⟩ := Hta.out k hlt
      obtain ⟨bb, off, rfl, hbb, p0'⟩ := h3' k hlt
      rw [ha] at p0'
      have HG : Hid (ldG ss ws (xs.getD k 0) = rdG (readP ss ws a)) := Lib.hid (by rw [ha]; rfl)
      clear ha
      have p0 := (hN.cell (p := ⟨bb, off + k, none⟩) hbb).trans p0'
      have hbbr : bb < wr.heap.size := Nat.lt_of_lt_of_le hbb hN.size
      have eR := e2.nx hN
      cases hr : rdG (readP ss ws a) with
      | none =>
        have Hr := Lib.hid hr
        have HA : Hid (ldV ss ws = (zVl, 10)) := Lib.hid (HSg.out k hlt (by rw [HG.out, hr]))
        clear hr
        go_wp2_with fail
        clear y4
        refine merge2L (F := (fun gq Wq => Nx wr Wq)) (G := ?_) (fun key => ?_) ?_
        rotate_left
        · have hXs : Nx wr wr.drew := (Nx.refl wr).drew
          have zd : wr.heap.size ≤ wr.drew.heap.size := Nat.le_refl _
          refine wp_region_plan (.t 0 (.t 1 (.t 2 (.t 3 (.t 4 (.t 5 (.b 6 (.b 7 (.t 8 (.t 9 (.t 10 (.c 11 (.c 12 (.t 13 .e)))))) 11 (.c 7 (.t 8 (.t 9 (.t 10 (.c 12 (.t 13 .e))))))) 11 (.c 6 (.c 7 (.t 8 (.t 9 (.t 10 (.c 12 (.t 13 .e)))))))))))))) (fun w' => (w'.cell? ⟨w.heap.size, 0, none⟩ = some (.slice A n c) ∧ w'.cell? ⟨w.heap.size, 1, none⟩ = some (.slice A2 n2 c2)) ∧ w'.cell? ⟨gS, 4, none⟩ = some (.slice (some ⟨bb, off, none⟩) m cx) ∧ w'.cell? ⟨bb, off + k, none⟩ = some (.int .i64 (a : Int))) (by kernel_rfl) (by kernel_rfl) rfl (by kernel_rfl) (fun _ _ d _ _ h => by cases d <;> exact h) (by exact ⟨⟨(eR.nx hXs).c0, (eR.nx hXs).c1⟩, (bS.nx hXs).d6.2.2.2.2.1, ((hXs).cell (p := ⟨bb, off + k, none⟩) hbbr).trans p0⟩) ?_
          simp only [psOf, List.getD_cons_zero, List.getD_cons_succ]
          generalize wr.drew = W0 at *
          repeat (first | (refine HP.take (v := ?_) (by rfl) ?_ ?_; rotate_left; (· (intro w hSw; (try dsimp only at hSw); go_simp; try with_reducible rfl)); (try simp only [Act.put, List.setIfInBounds_toArray, List.set_cons_zero, List.set_cons_succ])) | (refine HP.skip (by rfl) ?_; (try simp only [Act.put, List.setIfInBounds_toArray, List.set_cons_zero, List.set_cons_succ])))
          refine HP.both ?_ ?_
          · refine CallStep.mk (by rfl) (fun K hK => ?_)
            go_simp
            refine (l01Read_c A A2 n c n2 c2 B a ss ws _ (h.below ((hw2.trans hN).trans hXs) hB) (h2.below ((hw2.trans hN).trans hXs) hB) (Nat.le_trans hB ((hw2.trans hN).trans hXs).size) (by omega) hn hn2).mono ?_; rintro e v1 ⟨rfl, hv1⟩; have zhv1 := hv1.size; replace hXs := hXs.trans hv1; (try replace bz := bz.nx hv1); (try replace hSl := hSl.nx hv1)
            go_wp2_with fail
            refine hK.out _ _ (by exact ⟨⟨(eR.nx hXs).c0, (eR.nx hXs).c1⟩, (bS.nx hXs).d6.2.2.2.2.1, ((hXs).cell (p := ⟨bb, off + k, none⟩) hbbr).trans p0⟩) ?_
            clear hK K
            try simp only [Act.put, List.setIfInBounds_toArray, List.set_cons_zero, List.set_cons_succ]
            refine HP.both ?_ ?_
            · refine CallStep.mk (by rfl) (fun K hK => ?_)
              go_simp
              refine (l02Read_c (readP ss ws a) _ (by have := HDs.out a; omega)).mono ?_; rintro e v2 ⟨hv2, hno, hyes⟩; obtain rfl := hno Hr.out; clear hno hyes; have zhv2 := hv2.size; replace hXs := hXs.trans hv2; (try replace bz := bz.nx hv2); (try replace hSl := hSl.nx hv2)
              go_wp2_with fail
              refine hK.out _ _ (by exact ⟨⟨(eR.nx hXs).c0, (eR.nx hXs).c1⟩, (bS.nx hXs).d6.2.2.2.2.1, ((hXs).cell (p := ⟨bb, off + k, none⟩) hbbr).trans p0⟩) ?_
              clear hK K
              try simp only [Act.put, List.setIfInBounds_toArray, List.set_cons_zero, List.set_cons_succ]
              repeat (first | (refine HP.take (v := ?_) (by rfl) ?_ ?_; rotate_left; (· (intro w hSw; (try dsimp only at hSw); go_simp; try with_reducible rfl)); (try simp only [Act.put, List.setIfInBounds_toArray, List.set_cons_zero, List.set_cons_succ])) | (refine HP.skip (by rfl) ?_; (try simp only [Act.put, List.setIfInBounds_toArray, List.set_cons_zero, List.set_cons_succ])))
              refine HP.call ?_
              have bz := Box.new v2 130 #[.int .i64 0, .int .i64 0, .int .i64 0, .slice none 0 0]
              have hz := (Nx.refl v2).alloc (.cells #[.int .i64 0, .int .i64 0, .int .i64 0, .slice none 0 0] 130)
              have zlt : v2.heap.size < (v2.alloc (.cells #[.int .i64 0, .int .i64 0, .int .i64 0, .slice none 0 0] 130)).heap.size := by simp
              have zhz := hz.size; replace hXs := hXs.trans hz; (try replace bz := bz.nx hz); (try replace hSl := hSl.nx hz)
              refine CallStep.mk (by rfl) (fun K hK => ?_)
              go_simp
              refine hK.out _ _ (by exact ⟨⟨(eR.nx hXs).c0, (eR.nx hXs).c1⟩, (bS.nx hXs).d6.2.2.2.2.1, ((hXs).cell (p := ⟨bb, off + k, none⟩) hbbr).trans p0⟩) ?_
              clear hK K
              try simp only [Act.put, List.setIfInBounds_toArray, List.set_cons_zero, List.set_cons_succ]
              change HP _ _ _ _ _ _ (v2.alloc (.cells #[.int .i64 0, .int .i64 0, .int .i64 0, .slice none 0 0] 130))
              generalize v2.alloc (.cells #[.int .i64 0, .int .i64 0, .int .i64 0, .slice none 0 0] 130) = Wz at *
              generalize v2.heap.size = gz at *
              clear hz
              obtain ⟨rc0, rc1, rc2, rc3⟩ := bz.d4
              have rf0 := bz.frozen 0
              have rf1 := bz.frozen 1
              have rf2 := bz.frozen 2
              have rf3 := bz.frozen 3
              have rlt := bz.lt
              refine HP.call ?_
              refine CallStep.mk (by rfl) (fun K hK => ?_)
              go_simp
              refine hK.out _ _ (by exact ⟨⟨(eR.nx (put4_nx (g := gz) hXs (by omega) (.int .i64 0) (.int .i64 0) (.int .i64 0) (.slice none 0 0))).c0, (eR.nx (put4_nx (g := gz) hXs (by omega) (.int .i64 0) (.int .i64 0) (.int .i64 0) (.slice none 0 0))).c1⟩, (bS.nx (put4_nx (g := gz) hXs (by omega) (.int .i64 0) (.int .i64 0) (.int .i64 0) (.slice none 0 0))).d6.2.2.2.2.1, (((put4_nx (g := gz) hXs (by omega) (.int .i64 0) (.int .i64 0) (.int .i64 0) (.slice none 0 0))).cell (p := ⟨bb, off + k, none⟩) hbbr).trans p0⟩) ?_
              clear hK K
              try simp only [Act.put, List.setIfInBounds_toArray, List.set_cons_zero, List.set_cons_succ]
              clear rc0 rc1 rc2 rc3 rf0 rf1 rf2 rf3
              repeat (first | (refine HP.take (v := ?_) (by rfl) ?_ ?_; rotate_left; (· (intro w hSw; (try dsimp only at hSw); go_simp; try with_reducible rfl)); (try simp only [Act.put, List.setIfInBounds_toArray, List.set_cons_zero, List.set_cons_succ])) | (refine HP.skip (by rfl) ?_; (try simp only [Act.put, List.setIfInBounds_toArray, List.set_cons_zero, List.set_cons_succ])))
              refine HP.done ?_
              have hnf := put4_nx (g := gz) hXs (by omega) (.int .i64 0) (.int .i64 0) (.int .i64 0) (.slice none 0 0)
              unfold put4 at hnf
              generalize ((((Wz.setCell ⟨gz, 0, none⟩ (.int .i64 0)).setCell ⟨gz, 1, none⟩ (.int .i64 0)).setCell ⟨gz, 2, none⟩ (.int .i64 0)).setCell ⟨gz, 3, none⟩ (.slice none 0 0)) = Wf at *
              exact key gz Wf hnf
            · have bz := Box.new v1 130 #[.int .i64 0, .int .i64 0, .int .i64 0, .slice none 0 0]
              have hz := (Nx.refl v1).alloc (.cells #[.int .i64 0, .int .i64 0, .int .i64 0, .slice none 0 0] 130)
              have zlt : v1.heap.size < (v1.alloc (.cells #[.int .i64 0, .int .i64 0, .int .i64 0, .slice none 0 0] 130)).heap.size := by simp
              have zhz := hz.size; replace hXs := hXs.trans hz; (try replace bz := bz.nx hz); (try replace hSl := hSl.nx hz)
              refine CallStep.mk (by rfl) (fun K hK => ?_)
              go_simp
              refine hK.out _ _ (by exact ⟨⟨(eR.nx hXs).c0, (eR.nx hXs).c1⟩, (bS.nx hXs).d6.2.2.2.2.1, ((hXs).cell (p := ⟨bb, off + k, none⟩) hbbr).trans p0⟩) ?_
              clear hK K
              try simp only [Act.put, List.setIfInBounds_toArray, List.set_cons_zero, List.set_cons_succ]
              change HP _ _ _ _ _ _ (v1.alloc (.cells #[.int .i64 0, .int .i64 0, .int .i64 0, .slice none 0 0] 130))
              generalize v1.alloc (.cells #[.int .i64 0, .int .i64 0, .int .i64 0, .slice none 0 0] 130) = Wz at *
              generalize v1.heap.size = gz at *
              clear hz
              refine HP.call ?_
              refine CallStep.mk (by rfl) (fun K hK => ?_)
              go_simp
              refine (l02Read_c (readP ss ws a) _ (by have := HDs.out a; omega)).mono ?_; rintro e v2 ⟨hv2, hno, hyes⟩; obtain rfl := hno Hr.out; clear hno hyes; have zhv2 := hv2.size; replace hXs := hXs.trans hv2; (try replace bz := bz.nx hv2); (try replace hSl := hSl.nx hv2)
              go_wp2_with fail
              refine hK.out _ _ (by exact ⟨⟨(eR.nx hXs).c0, (eR.nx hXs).c1⟩, (bS.nx hXs).d6.2.2.2.2.1, ((hXs).cell (p := ⟨bb, off + k, none⟩) hbbr).trans p0⟩) ?_
              clear hK K
              try simp only [Act.put, List.setIfInBounds_toArray, List.set_cons_zero, List.set_cons_succ]
              repeat (first | (refine HP.take (v := ?_) (by rfl) ?_ ?_; rotate_left; (· (intro w hSw; (try dsimp only at hSw); go_simp; try with_reducible rfl)); (try simp only [Act.put, List.setIfInBounds_toArray, List.set_cons_zero, List.set_cons_succ])) | (refine HP.skip (by rfl) ?_; (try simp only [Act.put, List.setIfInBounds_toArray, List.set_cons_zero, List.set_cons_succ])))
              obtain ⟨rc0, rc1, rc2, rc3⟩ := bz.d4
              have rf0 := bz.frozen 0
              have rf1 := bz.frozen 1
              have rf2 := bz.frozen 2
              have rf3 := bz.frozen 3
              have rlt := bz.lt
              refine HP.call ?_
              refine CallStep.mk (by rfl) (fun K hK => ?_)
              go_simp
              refine hK.out _ _ (by exact ⟨⟨(eR.nx (put4_nx (g := gz) hXs (by omega) (.int .i64 0) (.int .i64 0) (.int .i64 0) (.slice none 0 0))).c0, (eR.nx (put4_nx (g := gz) hXs (by omega) (.int .i64 0) (.int .i64 0) (.int .i64 0) (.slice none 0 0))).c1⟩, (bS.nx (put4_nx (g := gz) hXs (by omega) (.int .i64 0) (.int .i64 0) (.int .i64 0) (.slice none 0 0))).d6.2.2.2.2.1, (((put4_nx (g := gz) hXs (by omega) (.int .i64 0) (.int .i64 0) (.int .i64 0) (.slice none 0 0))).cell (p := ⟨bb, off + k, none⟩) hbbr).trans p0⟩) ?_
              clear hK K
              try simp only [Act.put, List.setIfInBounds_toArray, List.set_cons_zero, List.set_cons_succ]
              clear rc0 rc1 rc2 rc3 rf0 rf1 rf2 rf3
              repeat (first | (refine HP.take (v := ?_) (by rfl) ?_ ?_; rotate_left; (· (intro w hSw; (try dsimp only at hSw); go_simp; try with_reducible rfl)); (try simp only [Act.put, List.setIfInBounds_toArray, List.set_cons_zero, List.set_cons_succ])) | (refine HP.skip (by rfl) ?_; (try simp only [Act.put, List.setIfInBounds_toArray, List.set_cons_zero, List.set_cons_succ])))
              refine HP.done ?_
              have hnf := put4_nx (g := gz) hXs (by omega) (.int .i64 0) (.int .i64 0) (.int .i64 0) (.slice none 0 0)
              unfold put4 at hnf
              generalize ((((v2.setCell ⟨gz, 0, none⟩ (.int .i64 0)).setCell ⟨gz, 1, none⟩ (.int .i64 0)).setCell ⟨gz, 2, none⟩ (.int .i64 0)).setCell ⟨gz, 3, none⟩ (.slice none 0 0)) = Wf at *
              exact key gz Wf hnf
          · have bz := Box.new W0 130 #[.int .i64 0, .int .i64 0, .int .i64 0, .slice none 0 0]
            have hz := (Nx.refl W0).alloc (.cells #[.int .i64 0, .int .i64 0, .int .i64 0, .slice none 0 0] 130)
            have zlt : W0.heap.size < (W0.alloc (.cells #[.int .i64 0, .int .i64 0, .int .i64 0, .slice none 0 0] 130)).heap.size := by simp
            have zhz := hz.size; replace hXs := hXs.trans hz; (try replace bz := bz.nx hz); (try replace hSl := hSl.nx hz)
            refine CallStep.mk (by rfl) (fun K hK => ?_)
            go_simp
            refine hK.out _ _ (by exact ⟨⟨(eR.nx hXs).c0, (eR.nx hXs).c1⟩, (bS.nx hXs).d6.2.2.2.2.1, ((hXs).cell (p := ⟨bb, off + k, none⟩) hbbr).trans p0⟩) ?_
            clear hK K
            try simp only [Act.put, List.setIfInBounds_toArray, List.set_cons_zero, List.set_cons_succ]
            change HP _ _ _ _ _ _ (W0.alloc (.cells #[.int .i64 0, .int .i64 0, .int .i64 0, .slice none 0 0] 130))
            generalize W0.alloc (.cells #[.int .i64 0, .int .i64 0, .int .i64 0, .slice none 0 0] 130) = Wz at *
            generalize W0.heap.size = gz at *
            clear hz
            refine HP.call ?_
            refine CallStep.mk (by rfl) (fun K hK => ?_)
            go_simp
            refine (l01Read_c A A2 n c n2 c2 B a ss ws _ (h.below ((hw2.trans hN).trans hXs) hB) (h2.below ((hw2.trans hN).trans hXs) hB) (Nat.le_trans hB ((hw2.trans hN).trans hXs).size) (by omega) hn hn2).mono ?_; rintro e v1 ⟨rfl, hv1⟩; have zhv1 := hv1.size; replace hXs := hXs.trans hv1; (try replace bz := bz.nx hv1); (try replace hSl := hSl.nx hv1)
            go_wp2_with fail
            refine hK.out _ _ (by exact ⟨⟨(eR.nx hXs).c0, (eR.nx hXs).c1⟩, (bS.nx hXs).d6.2.2.2.2.1, ((hXs).cell (p := ⟨bb, off + k, none⟩) hbbr).trans p0⟩) ?_
            clear hK K
            try simp only [Act.put, List.setIfInBounds_toArray, List.set_cons_zero, List.set_cons_succ]
            refine HP.call ?_
            refine CallStep.mk (by rfl) (fun K hK => ?_)
            go_simp
            refine (l02Read_c (readP ss ws a) _ (by have := HDs.out a; omega)).mono ?_; rintro e v2 ⟨hv2, hno, hyes⟩; obtain rfl := hno Hr.out; clear hno hyes; have zhv2 := hv2.size; replace hXs := hXs.trans hv2; (try replace bz := bz.nx hv2); (try replace hSl := hSl.nx hv2)
            go_wp2_with fail
            refine hK.out _ _ (by exact ⟨⟨(eR.nx hXs).c0, (eR.nx hXs).c1⟩, (bS.nx hXs).d6.2.2.2.2.1, ((hXs).cell (p := ⟨bb, off + k, none⟩) hbbr).trans p0⟩) ?_
            clear hK K
            try simp only [Act.put, List.setIfInBounds_toArray, List.set_cons_zero, List.set_cons_succ]
            repeat (first | (refine HP.take (v := ?_) (by rfl) ?_ ?_; rotate_left; (· (intro w hSw; (try dsimp only at hSw); go_simp; try with_reducible rfl)); (try simp only [Act.put, List.setIfInBounds_toArray, List.set_cons_zero, List.set_cons_succ])) | (refine HP.skip (by rfl) ?_; (try simp only [Act.put, List.setIfInBounds_toArray, List.set_cons_zero, List.set_cons_succ])))
            obtain ⟨rc0, rc1, rc2, rc3⟩ := bz.d4
            have rf0 := bz.frozen 0
            have rf1 := bz.frozen 1
            have rf2 := bz.frozen 2
            have rf3 := bz.frozen 3
            have rlt := bz.lt
            refine HP.call ?_
            refine CallStep.mk (by rfl) (fun K hK => ?_)
            go_simp
            refine hK.out _ _ (by exact ⟨⟨(eR.nx (put4_nx (g := gz) hXs (by omega) (.int .i64 0) (.int .i64 0) (.int .i64 0) (.slice none 0 0))).c0, (eR.nx (put4_nx (g := gz) hXs (by omega) (.int .i64 0) (.int .i64 0) (.int .i64 0) (.slice none 0 0))).c1⟩, (bS.nx (put4_nx (g := gz) hXs (by omega) (.int .i64 0) (.int .i64 0) (.int .i64 0) (.slice none 0 0))).d6.2.2.2.2.1, (((put4_nx (g := gz) hXs (by omega) (.int .i64 0) (.int .i64 0) (.int .i64 0) (.slice none 0 0))).cell (p := ⟨bb, off + k, none⟩) hbbr).trans p0⟩) ?_
            clear hK K
            try simp only [Act.put, List.setIfInBounds_toArray, List.set_cons_zero, List.set_cons_succ]
            clear rc0 rc1 rc2 rc3 rf0 rf1 rf2 rf3
            repeat (first | (refine HP.take (v := ?_) (by rfl) ?_ ?_; rotate_left; (· (intro w hSw; (try dsimp only at hSw); go_simp; try with_reducible rfl)); (try simp only [Act.put, List.setIfInBounds_toArray, List.set_cons_zero, List.set_cons_succ])) | (refine HP.skip (by rfl) ?_; (try simp only [Act.put, List.setIfInBounds_toArray, List.set_cons_zero, List.set_cons_succ])))
            refine HP.done ?_
            have hnf := put4_nx (g := gz) hXs (by omega) (.int .i64 0) (.int .i64 0) (.int .i64 0) (.slice none 0 0)
            unfold put4 at hnf
            generalize ((((v2.setCell ⟨gz, 0, none⟩ (.int .i64 0)).setCell ⟨gz, 1, none⟩ (.int .i64 0)).setCell ⟨gz, 2, none⟩ (.int .i64 0)).setCell ⟨gz, 3, none⟩ (.slice none 0 0)) = Wf at *
            exact key gz Wf hnf
        intro gq Wq hXq
        have rf := (r2.nx hN).nx hXq
        have hxf := (hw2.trans hN).trans hXq
        have rq := rf.row #[.int .i64 0, .int .i64 0, .int .i64 0, .int .i64 0, .slice none 0 0, .slice none 0 0, .slice none 0 0, .slice none 0 0]
        have hnf := hxf.setRow hgR #[.int .i64 0, .int .i64 0, .int .i64 0, .int .i64 0, .slice none 0 0, .slice none 0 0, .slice none 0 0, .slice none 0 0]
        go_wp2_with (refine wpList_store_row rfl _ _ _ rfl gR #[.int .i64 0, .int .i64 0, .int .i64 0, .int .i64 0, .slice none 0 0, .slice none 0 0, .slice none 0 0, .slice none 0 0] rfl rfl 33 #[.int .i64 0, .int .i64 0, .int .i64 0, .int .i64 0, .slice none 0 0, .slice none 0 0, .slice none 0 0, .slice none 0 0] rf (by kernel_rfl) rfl (by simp [Value.oneCell']) ?_)
        generalize Wq.setRow gR #[.int .i64 0, .int .i64 0, .int .i64 0, .int .i64 0, .slice none 0 0, .slice none 0 0, .slice none 0 0, .slice none 0 0] = Wf at *
        obtain ⟨g0, g1, g2, g3, g4, g5, g6, g7⟩ := rq.e8
        exact bodyPost_ret (v := .tuple #[.agg #[.int .i64 0, .int .i64 0, .int .i64 0, .int .i64 0, .slice none 0 0, .slice none 0 0, .slice none 0 0, .slice none 0 0], .int .i64 10]) (by simp [results, Tryz.results55, go_sem, g0, g1, g2, g3, g4, g5, g6, g7]) rfl ⟨zVl, w.heap.size, by rw [HA.out]; rfl, by rw [HA.out]; exact VlS.refl _, VlP.zero _ hnf.size, hnf⟩
      | some qq =>
        obtain ⟨q0, q1, q2, cs⟩ := qq
        have Hr := Lib.hid hr
        have HF : Hid (ldG ss ws (xs.getD k 0) = some (q0, q1, q2, cs)) := Lib.hid (by rw [HG.out, hr])
        clear hr
        go_wp2_with fail
        clear y4
        refine merge4L (F := (fun gq Aq cq Wq => Box Wq gq 130 #[.int .i64 q0, .int .i64 q1, .int .i64 q2, .slice Aq cs.length cq] ∧ Sl Wq w2.heap.size Aq 202 (cs.length * 3) (chAt cs) ∧ wr.heap.size ≤ gq ∧ Nx wr Wq ∧ Dj (gs ++ [⟨(q0 : Nat), (q1 : Nat), (q2 : Nat), Aq, cq, cs⟩]))) (G := ?_) (fun key => ?_) ?_
        rotate_left
        · have hXs : Nx wr wr.drew := (Nx.refl wr).drew
          have zd : wr.heap.size ≤ wr.drew.heap.size := Nat.le_refl _
          refine wp_region_plan (.t 0 (.t 1 (.t 2 (.t 3 (.t 4 (.t 5 (.b 6 (.b 7 (.t 8 (.t 9 (.t 10 (.c 11 (.c 12 (.t 13 .e)))))) 11 (.c 7 (.t 8 (.t 9 (.t 10 (.c 12 (.t 13 .e))))))) 11 (.c 6 (.c 7 (.t 8 (.t 9 (.t 10 (.c 12 (.t 13 .e)))))))))))))) (fun w' => (w'.cell? ⟨w.heap.size, 0, none⟩ = some (.slice A n c) ∧ w'.cell? ⟨w.heap.size, 1, none⟩ = some (.slice A2 n2 c2)) ∧ w'.cell? ⟨gS, 4, none⟩ = some (.slice (some ⟨bb, off, none⟩) m cx) ∧ w'.cell? ⟨bb, off + k, none⟩ = some (.int .i64 (a : Int))) (by kernel_rfl) (by kernel_rfl) rfl (by kernel_rfl) (fun _ _ d _ _ h => by cases d <;> exact h) (by exact ⟨⟨(eR.nx hXs).c0, (eR.nx hXs).c1⟩, (bS.nx hXs).d6.2.2.2.2.1, ((hXs).cell (p := ⟨bb, off + k, none⟩) hbbr).trans p0⟩) ?_
          simp only [psOf, List.getD_cons_zero, List.getD_cons_succ]
          generalize wr.drew = W0 at *
          repeat (first | (refine HP.take (v := ?_) (by rfl) ?_ ?_; rotate_left; (· (intro w hSw; (try dsimp only at hSw); go_simp; try with_reducible rfl)); (try simp only [Act.put, List.setIfInBounds_toArray, List.set_cons_zero, List.set_cons_succ])) | (refine HP.skip (by rfl) ?_; (try simp only [Act.put, List.setIfInBounds_toArray, List.set_cons_zero, List.set_cons_succ])))
          refine HP.both ?_ ?_
          · refine CallStep.mk (by rfl) (fun K hK => ?_)
            go_simp
            refine (l01Read_c A A2 n c n2 c2 B a ss ws _ (h.below ((hw2.trans hN).trans hXs) hB) (h2.below ((hw2.trans hN).trans hXs) hB) (Nat.le_trans hB ((hw2.trans hN).trans hXs).size) (by omega) hn hn2).mono ?_; rintro e v1 ⟨rfl, hv1⟩; have zhv1 := hv1.size; replace hXs := hXs.trans hv1; (try replace bz := bz.nx hv1); (try replace hSl := hSl.nx hv1)
            go_wp2_with fail
            refine hK.out _ _ (by exact ⟨⟨(eR.nx hXs).c0, (eR.nx hXs).c1⟩, (bS.nx hXs).d6.2.2.2.2.1, ((hXs).cell (p := ⟨bb, off + k, none⟩) hbbr).trans p0⟩) ?_
            clear hK K
            try simp only [Act.put, List.setIfInBounds_toArray, List.set_cons_zero, List.set_cons_succ]
            refine HP.both ?_ ?_
            · refine CallStep.mk (by rfl) (fun K hK => ?_)
              go_simp
              refine (l02Read_c (readP ss ws a) _ (by have := HDs.out a; omega)).mono ?_; rintro e v2 ⟨hv2, hno, hyes⟩; obtain ⟨Aq, cq, rfl, hSl⟩ := hyes _ Hr.out; simp only at hSl; have HD1 := Lib.hid (HDj.out.snoc (g := ⟨(q0 : Nat), (q1 : Nat), (q2 : Nat), Aq, cq, cs⟩) (hcho.nx hXs) hSl); replace hSl := hSl.low (lo' := w2.heap.size) (by have := hXs.size; have := hN.size; omega); clear hno hyes; have zhv2 := hv2.size; replace hXs := hXs.trans hv2; (try replace bz := bz.nx hv2); (try replace hSl := hSl.nx hv2)
              go_wp2_with fail
              refine hK.out _ _ (by exact ⟨⟨(eR.nx hXs).c0, (eR.nx hXs).c1⟩, (bS.nx hXs).d6.2.2.2.2.1, ((hXs).cell (p := ⟨bb, off + k, none⟩) hbbr).trans p0⟩) ?_
              clear hK K
              try simp only [Act.put, List.setIfInBounds_toArray, List.set_cons_zero, List.set_cons_succ]
              repeat (first | (refine HP.take (v := ?_) (by rfl) ?_ ?_; rotate_left; (· (intro w hSw; (try dsimp only at hSw); go_simp; try with_reducible rfl)); (try simp only [Act.put, List.setIfInBounds_toArray, List.set_cons_zero, List.set_cons_succ])) | (refine HP.skip (by rfl) ?_; (try simp only [Act.put, List.setIfInBounds_toArray, List.set_cons_zero, List.set_cons_succ])))
              refine HP.call ?_
              have bz := Box.new v2 130 #[.int .i64 0, .int .i64 0, .int .i64 0, .slice none 0 0]
              have hz := (Nx.refl v2).alloc (.cells #[.int .i64 0, .int .i64 0, .int .i64 0, .slice none 0 0] 130)
              have zlt : v2.heap.size < (v2.alloc (.cells #[.int .i64 0, .int .i64 0, .int .i64 0, .slice none 0 0] 130)).heap.size := by simp
              have zhz := hz.size; replace hXs := hXs.trans hz; (try replace bz := bz.nx hz); (try replace hSl := hSl.nx hz)
              refine CallStep.mk (by rfl) (fun K hK => ?_)
              go_simp
              refine hK.out _ _ (by exact ⟨⟨(eR.nx hXs).c0, (eR.nx hXs).c1⟩, (bS.nx hXs).d6.2.2.2.2.1, ((hXs).cell (p := ⟨bb, off + k, none⟩) hbbr).trans p0⟩) ?_
              clear hK K
              try simp only [Act.put, List.setIfInBounds_toArray, List.set_cons_zero, List.set_cons_succ]
              change HP _ _ _ _ _ _ (v2.alloc (.cells #[.int .i64 0, .int .i64 0, .int .i64 0, .slice none 0 0] 130))
              generalize v2.alloc (.cells #[.int .i64 0, .int .i64 0, .int .i64 0, .slice none 0 0] 130) = Wz at *
              generalize v2.heap.size = gz at *
              clear hz
              obtain ⟨rc0, rc1, rc2, rc3⟩ := bz.d4
              have rf0 := bz.frozen 0
              have rf1 := bz.frozen 1
              have rf2 := bz.frozen 2
              have rf3 := bz.frozen 3
              have rlt := bz.lt
              refine HP.call ?_
              refine CallStep.mk (by rfl) (fun K hK => ?_)
              go_simp
              refine hK.out _ _ (by exact ⟨⟨(eR.nx (put4_nx (g := gz) hXs (by omega) (.int .i64 q0) (.int .i64 q1) (.int .i64 q2) (.slice Aq cs.length cq))).c0, (eR.nx (put4_nx (g := gz) hXs (by omega) (.int .i64 q0) (.int .i64 q1) (.int .i64 q2) (.slice Aq cs.length cq))).c1⟩, (bS.nx (put4_nx (g := gz) hXs (by omega) (.int .i64 q0) (.int .i64 q1) (.int .i64 q2) (.slice Aq cs.length cq))).d6.2.2.2.2.1, (((put4_nx (g := gz) hXs (by omega) (.int .i64 q0) (.int .i64 q1) (.int .i64 q2) (.slice Aq cs.length cq))).cell (p := ⟨bb, off + k, none⟩) hbbr).trans p0⟩) ?_
              clear hK K
              try simp only [Act.put, List.setIfInBounds_toArray, List.set_cons_zero, List.set_cons_succ]
              clear rc0 rc1 rc2 rc3 rf0 rf1 rf2 rf3
              repeat (first | (refine HP.take (v := ?_) (by rfl) ?_ ?_; rotate_left; (· (intro w hSw; (try dsimp only at hSw); go_simp; try with_reducible rfl)); (try simp only [Act.put, List.setIfInBounds_toArray, List.set_cons_zero, List.set_cons_succ])) | (refine HP.skip (by rfl) ?_; (try simp only [Act.put, List.setIfInBounds_toArray, List.set_cons_zero, List.set_cons_succ])))
              refine HP.done ?_
              have rq := put4_box bz (.int .i64 q0) (.int .i64 q1) (.int .i64 q2) (.slice Aq cs.length cq)
              have hnf := put4_nx (g := gz) hXs (by omega) (.int .i64 q0) (.int .i64 q1) (.int .i64 q2) (.slice Aq cs.length cq)
              have hSf : Sl (put4 Wz gz (.int .i64 q0) (.int .i64 q1) (.int .i64 q2) (.slice Aq cs.length cq)) w2.heap.size Aq 202 (cs.length * 3) (chAt cs) := slput4q hSl bz (by decide) (.int .i64 q0) (.int .i64 q1) (.int .i64 q2) (.slice Aq cs.length cq)
              unfold put4 at rq hnf hSf
              generalize ((((Wz.setCell ⟨gz, 0, none⟩ (.int .i64 q0)).setCell ⟨gz, 1, none⟩ (.int .i64 q1)).setCell ⟨gz, 2, none⟩ (.int .i64 q2)).setCell ⟨gz, 3, none⟩ (.slice Aq cs.length cq)) = Wf at *
              exact key gz Aq cq Wf ⟨rq, hSf, by omega, hnf, HD1.out⟩
            · have bz := Box.new v1 130 #[.int .i64 0, .int .i64 0, .int .i64 0, .slice none 0 0]
              have hz := (Nx.refl v1).alloc (.cells #[.int .i64 0, .int .i64 0, .int .i64 0, .slice none 0 0] 130)
              have zlt : v1.heap.size < (v1.alloc (.cells #[.int .i64 0, .int .i64 0, .int .i64 0, .slice none 0 0] 130)).heap.size := by simp
              have zhz := hz.size; replace hXs := hXs.trans hz; (try replace bz := bz.nx hz); (try replace hSl := hSl.nx hz)
              refine CallStep.mk (by rfl) (fun K hK => ?_)
              go_simp
              refine hK.out _ _ (by exact ⟨⟨(eR.nx hXs).c0, (eR.nx hXs).c1⟩, (bS.nx hXs).d6.2.2.2.2.1, ((hXs).cell (p := ⟨bb, off + k, none⟩) hbbr).trans p0⟩) ?_
              clear hK K
              try simp only [Act.put, List.setIfInBounds_toArray, List.set_cons_zero, List.set_cons_succ]
              change HP _ _ _ _ _ _ (v1.alloc (.cells #[.int .i64 0, .int .i64 0, .int .i64 0, .slice none 0 0] 130))
              generalize v1.alloc (.cells #[.int .i64 0, .int .i64 0, .int .i64 0, .slice none 0 0] 130) = Wz at *
              generalize v1.heap.size = gz at *
              clear hz
              refine HP.call ?_
              refine CallStep.mk (by rfl) (fun K hK => ?_)
              go_simp
              refine (l02Read_c (readP ss ws a) _ (by have := HDs.out a; omega)).mono ?_; rintro e v2 ⟨hv2, hno, hyes⟩; obtain ⟨Aq, cq, rfl, hSl⟩ := hyes _ Hr.out; simp only at hSl; have HD1 := Lib.hid (HDj.out.snoc (g := ⟨(q0 : Nat), (q1 : Nat), (q2 : Nat), Aq, cq, cs⟩) (hcho.nx hXs) hSl); replace hSl := hSl.low (lo' := w2.heap.size) (by have := hXs.size; have := hN.size; omega); clear hno hyes; have zhv2 := hv2.size; replace hXs := hXs.trans hv2; (try replace bz := bz.nx hv2); (try replace hSl := hSl.nx hv2)
              go_wp2_with fail
              refine hK.out _ _ (by exact ⟨⟨(eR.nx hXs).c0, (eR.nx hXs).c1⟩, (bS.nx hXs).d6.2.2.2.2.1, ((hXs).cell (p := ⟨bb, off + k, none⟩) hbbr).trans p0⟩) ?_
              clear hK K
              try simp only [Act.put, List.setIfInBounds_toArray, List.set_cons_zero, List.set_cons_succ]
              repeat (first | (refine HP.take (v := ?_) (by rfl) ?_ ?_; rotate_left; (· (intro w hSw; (try dsimp only at hSw); go_simp; try with_reducible rfl)); (try simp only [Act.put, List.setIfInBounds_toArray, List.set_cons_zero, List.set_cons_succ])) | (refine HP.skip (by rfl) ?_; (try simp only [Act.put, List.setIfInBounds_toArray, List.set_cons_zero, List.set_cons_succ])))
              obtain ⟨rc0, rc1, rc2, rc3⟩ := bz.d4
              have rf0 := bz.frozen 0
              have rf1 := bz.frozen 1
              have rf2 := bz.frozen 2
              have rf3 := bz.frozen 3
              have rlt := bz.lt
              refine HP.call ?_
              refine CallStep.mk (by rfl) (fun K hK => ?_)
              go_simp
              refine hK.out _ _ (by exact ⟨⟨(eR.nx (put4_nx (g := gz) hXs (by omega) (.int .i64 q0) (.int .i64 q1) (.int .i64 q2) (.slice Aq cs.length cq))).c0, (eR.nx (put4_nx (g := gz) hXs (by omega) (.int .i64 q0) (.int .i64 q1) (.int .i64 q2) (.slice Aq cs.length cq))).c1⟩, (bS.nx (put4_nx (g := gz) hXs (by omega) (.int .i64 q0) (.int .i64 q1) (.int .i64 q2) (.slice Aq cs.length cq))).d6.2.2.2.2.1, (((put4_nx (g := gz) hXs (by omega) (.int .i64 q0) (.int .i64 q1) (.int .i64 q2) (.slice Aq cs.length cq))).cell (p := ⟨bb, off + k, none⟩) hbbr).trans p0⟩) ?_
              clear hK K
              try simp only [Act.put, List.setIfInBounds_toArray, List.set_cons_zero, List.set_cons_succ]
              clear rc0 rc1 rc2 rc3 rf0 rf1 rf2 rf3
              repeat (first | (refine HP.take (v := ?_) (by rfl) ?_ ?_; rotate_left; (· (intro w hSw; (try dsimp only at hSw); go_simp; try with_reducible rfl)); (try simp only [Act.put, List.setIfInBounds_toArray, List.set_cons_zero, List.set_cons_succ])) | (refine HP.skip (by rfl) ?_; (try simp only [Act.put, List.setIfInBounds_toArray, List.set_cons_zero, List.set_cons_succ])))
              refine HP.done ?_
              have rq := put4_box bz (.int .i64 q0) (.int .i64 q1) (.int .i64 q2) (.slice Aq cs.length cq)
              have hnf := put4_nx (g := gz) hXs (by omega) (.int .i64 q0) (.int .i64 q1) (.int .i64 q2) (.slice Aq cs.length cq)
              have hSf : Sl (put4 v2 gz (.int .i64 q0) (.int .i64 q1) (.int .i64 q2) (.slice Aq cs.length cq)) w2.heap.size Aq 202 (cs.length * 3) (chAt cs) := slput4q hSl bz (by decide) (.int .i64 q0) (.int .i64 q1) (.int .i64 q2) (.slice Aq cs.length cq)
              unfold put4 at rq hnf hSf
              generalize ((((v2.setCell ⟨gz, 0, none⟩ (.int .i64 q0)).setCell ⟨gz, 1, none⟩ (.int .i64 q1)).setCell ⟨gz, 2, none⟩ (.int .i64 q2)).setCell ⟨gz, 3, none⟩ (.slice Aq cs.length cq)) = Wf at *
              exact key gz Aq cq Wf ⟨rq, hSf, by omega, hnf, HD1.out⟩
          · have bz := Box.new W0 130 #[.int .i64 0, .int .i64 0, .int .i64 0, .slice none 0 0]
            have hz := (Nx.refl W0).alloc (.cells #[.int .i64 0, .int .i64 0, .int .i64 0, .slice none 0 0] 130)
            have zlt : W0.heap.size < (W0.alloc (.cells #[.int .i64 0, .int .i64 0, .int .i64 0, .slice none 0 0] 130)).heap.size := by simp
            have zhz := hz.size; replace hXs := hXs.trans hz; (try replace bz := bz.nx hz); (try replace hSl := hSl.nx hz)
            refine CallStep.mk (by rfl) (fun K hK => ?_)
            go_simp
            refine hK.out _ _ (by exact ⟨⟨(eR.nx hXs).c0, (eR.nx hXs).c1⟩, (bS.nx hXs).d6.2.2.2.2.1, ((hXs).cell (p := ⟨bb, off + k, none⟩) hbbr).trans p0⟩) ?_
            clear hK K
            try simp only [Act.put, List.setIfInBounds_toArray, List.set_cons_zero, List.set_cons_succ]
            change HP _ _ _ _ _ _ (W0.alloc (.cells #[.int .i64 0, .int .i64 0, .int .i64 0, .slice none 0 0] 130))
            generalize W0.alloc (.cells #[.int .i64 0, .int .i64 0, .int .i64 0, .slice none 0 0] 130) = Wz at *
            generalize W0.heap.size = gz at *
            clear hz
            refine HP.call ?_
            refine CallStep.mk (by rfl) (fun K hK => ?_)
            go_simp
            refine (l01Read_c A A2 n c n2 c2 B a ss ws _ (h.below ((hw2.trans hN).trans hXs) hB) (h2.below ((hw2.trans hN).trans hXs) hB) (Nat.le_trans hB ((hw2.trans hN).trans hXs).size) (by omega) hn hn2).mono ?_; rintro e v1 ⟨rfl, hv1⟩; have zhv1 := hv1.size; replace hXs := hXs.trans hv1; (try replace bz := bz.nx hv1); (try replace hSl := hSl.nx hv1)
            go_wp2_with fail
            refine hK.out _ _ (by exact ⟨⟨(eR.nx hXs).c0, (eR.nx hXs).c1⟩, (bS.nx hXs).d6.2.2.2.2.1, ((hXs).cell (p := ⟨bb, off + k, none⟩) hbbr).trans p0⟩) ?_
            clear hK K
            try simp only [Act.put, List.setIfInBounds_toArray, List.set_cons_zero, List.set_cons_succ]
            refine HP.call ?_
            refine CallStep.mk (by rfl) (fun K hK => ?_)
            go_simp
            refine (l02Read_c (readP ss ws a) _ (by have := HDs.out a; omega)).mono ?_; rintro e v2 ⟨hv2, hno, hyes⟩; obtain ⟨Aq, cq, rfl, hSl⟩ := hyes _ Hr.out; simp only at hSl; have HD1 := Lib.hid (HDj.out.snoc (g := ⟨(q0 : Nat), (q1 : Nat), (q2 : Nat), Aq, cq, cs⟩) (hcho.nx hXs) hSl); replace hSl := hSl.low (lo' := w2.heap.size) (by have := hXs.size; have := hN.size; omega); clear hno hyes; have zhv2 := hv2.size; replace hXs := hXs.trans hv2; (try replace bz := bz.nx hv2); (try replace hSl := hSl.nx hv2)
            go_wp2_with fail
            refine hK.out _ _ (by exact ⟨⟨(eR.nx hXs).c0, (eR.nx hXs).c1⟩, (bS.nx hXs).d6.2.2.2.2.1, ((hXs).cell (p := ⟨bb, off + k, none⟩) hbbr).trans p0⟩) ?_
            clear hK K
            try simp only [Act.put, List.setIfInBounds_toArray, List.set_cons_zero, List.set_cons_succ]
            repeat (first | (refine HP.take (v := ?_) (by rfl) ?_ ?_; rotate_left; (· (intro w hSw; (try dsimp only at hSw); go_simp; try with_reducible rfl)); (try simp only [Act.put, List.setIfInBounds_toArray, List.set_cons_zero, List.set_cons_succ])) | (refine HP.skip (by rfl) ?_; (try simp only [Act.put, List.setIfInBounds_toArray, List.set_cons_zero, List.set_cons_succ])))
            obtain ⟨rc0, rc1, rc2, rc3⟩ := bz.d4
            have rf0 := bz.frozen 0
            have rf1 := bz.frozen 1
            have rf2 := bz.frozen 2
            have rf3 := bz.frozen 3
            have rlt := bz.lt
            refine HP.call ?_
            refine CallStep.mk (by rfl) (fun K hK => ?_)
            go_simp
            refine hK.out _ _ (by exact ⟨⟨(eR.nx (put4_nx (g := gz) hXs (by omega) (.int .i64 q0) (.int .i64 q1) (.int .i64 q2) (.slice Aq cs.length cq))).c0, (eR.nx (put4_nx (g := gz) hXs (by omega) (.int .i64 q0) (.int .i64 q1) (.int .i64 q2) (.slice Aq cs.length cq))).c1⟩, (bS.nx (put4_nx (g := gz) hXs (by omega) (.int .i64 q0) (.int .i64 q1) (.int .i64 q2) (.slice Aq cs.length cq))).d6.2.2.2.2.1, (((put4_nx (g := gz) hXs (by omega) (.int .i64 q0) (.int .i64 q1) (.int .i64 q2) (.slice Aq cs.length cq))).cell (p := ⟨bb, off + k, none⟩) hbbr).trans p0⟩) ?_
            clear hK K
            try simp only [Act.put, List.setIfInBounds_toArray, List.set_cons_zero, List.set_cons_succ]
            clear rc0 rc1 rc2 rc3 rf0 rf1 rf2 rf3
            repeat (first | (refine HP.take (v := ?_) (by rfl) ?_ ?_; rotate_left; (· (intro w hSw; (try dsimp only at hSw); go_simp; try with_reducible rfl)); (try simp only [Act.put, List.setIfInBounds_toArray, List.set_cons_zero, List.set_cons_succ])) | (refine HP.skip (by rfl) ?_; (try simp only [Act.put, List.setIfInBounds_toArray, List.set_cons_zero, List.set_cons_succ])))
            refine HP.done ?_
            have rq := put4_box bz (.int .i64 q0) (.int .i64 q1) (.int .i64 q2) (.slice Aq cs.length cq)
            have hnf := put4_nx (g := gz) hXs (by omega) (.int .i64 q0) (.int .i64 q1) (.int .i64 q2) (.slice Aq cs.length cq)
            have hSf : Sl (put4 v2 gz (.int .i64 q0) (.int .i64 q1) (.int .i64 q2) (.slice Aq cs.length cq)) w2.heap.size Aq 202 (cs.length * 3) (chAt cs) := slput4q hSl bz (by decide) (.int .i64 q0) (.int .i64 q1) (.int .i64 q2) (.slice Aq cs.length cq)
            unfold put4 at rq hnf hSf
            generalize ((((v2.setCell ⟨gz, 0, none⟩ (.int .i64 q0)).setCell ⟨gz, 1, none⟩ (.int .i64 q1)).setCell ⟨gz, 2, none⟩ (.int .i64 q2)).setCell ⟨gz, 3, none⟩ (.slice Aq cs.length cq)) = Wf at *
            exact key gz Aq cq Wf ⟨rq, hSf, by omega, hnf, HD1.out⟩
        intro gq Aq cq Wq ⟨bQ, hSl, hgq, hXq, hdq⟩
        have HD1 := Lib.hid hdq
        have HG1 := Lib.hid (HSn.out k gs _ HGs.out hlt HF.out Aq cq)
        have hrow2 := hrow.nx hXq
        have hcho2 := hcho.nx hXq
        have bV2 := bV.nx hXq
        have bS2 := bS.nx hXq
        have bI2 := bI.nx hXq
        have hN2 := hN.trans hXq
        clear hdq hrow hcho bV bS bI hXq eR p0 p0' hN
        have hz3 := (Nx.refl Wq).alloc (.cells #[.int .i64 q0, .int .i64 q1, .int .i64 q2, .slice Aq cs.length cq] 130)
        have hrow3 := hrow2.nx hz3
        have hcho3 := hcho2.nx hz3
        have bV3 := bV2.nx hz3
        have bS3 := bS2.nx hz3
        have bI3 := bI2.nx hz3
        have hN3 := hN2.trans hz3
        have hSl3 := hSl.nx hz3
        have HR3 := Lib.hid hrow3
        have HB3 := Lib.hid (Box.new Wq 130 #[.int .i64 q0, .int .i64 q1, .int .i64 q2, .slice Aq cs.length cq])
        have hl9 : gs.length ≤ 1048576 := by have := Hlen.out; omega
        have hsz3 := hN3.size
        obtain ⟨l0, l1, l2, l3⟩ := bQ.d4
        obtain ⟨_, _, _, _, _, _, x6, _⟩ := bV2.e8
        clear hrow2 hcho2 bS2 bI2 hN2 hrow3 hSl
        go_wp2_with (at_builtin; refine wpList_addS rfl _ _ rfl w2.heap.size Wq.heap.size _ gs ⟨(q0 : Nat), (q1 : Nat), (q2 : Nat), Aq, cq, cs⟩ rfl rfl HR3.out HB3.out hl9 hsz3 ?_)
        intro A9 k9 w9 hrow9 hgr
        have hN9 := hgr.nx w2 hN3 (Nat.le_refl _)
        have hcho9 := (hgr.cho hcho3).snoc (g := ⟨(q0 : Nat), (q1 : Nat), (q2 : Nat), Aq, cq, cs⟩) (hgr.sl hSl3 (by decide))
        have bV9 := hgr.box _ _ _ (by decide) bV3
        have bS9 := hgr.box _ _ _ (by decide) bS3
        have bI9 := hgr.box _ _ _ (by decide) bI3
        clear hcho3 hSl3 bV3 bS3 bI3 hgr HR3 HB3 l0 l1 l2 l3 x6 bQ bV2 hN3 hsz3 hz3
        obtain ⟨_, _, _, _, _, _, x6, _⟩ := bV9.e8
        have xf6 := bV9.frozen 6
        have HrowZ := Lib.hid (hrow9.farB (i := 6) bV9 (by decide) (.slice A9 (gs.length + 1) k9))
        have HchoZ := Lib.hid (hcho9.farB (i := 6) bV9 (by decide) (.slice A9 (gs.length + 1) k9))
        have HNZ := Lib.hid (hN9.setCell (p := ⟨gV, 6, none⟩) hgV2 (.slice A9 (gs.length + 1) k9))
        have HSZ := Lib.hid (bS9.far (p := ⟨gV, 6, none⟩) hgSV (.slice A9 (gs.length + 1) k9))
        have HIZ := Lib.hid (bI9.far (p := ⟨gV, 6, none⟩) (Box.ne_ty bI9 bV9 (by decide)) (.slice A9 (gs.length + 1) k9))
        have HVZ := Lib.hid (bV9.set 6 (.slice A9 (gs.length + 1) k9))
        clear hrow9 hcho9 hN9 bS9 bI9
        go_wp2
        go_roundw
        case rel => exact ⟨k + 1, gs ++ [⟨(q0 : Nat), (q1 : Nat), (q2 : Nat), Aq, cq, cs⟩], _, by omega, by go_num, HrowZ.out, HchoZ.out, HD1.out, HG1.out, HNZ.out, HSZ.out, HVZ.out, HIZ.out⟩
        case measure => simp [intOf]; omega
end Go.Proofs.YtehahodomfbpjaaGreatDoor
/- Contract of the model's LoadVault. Conditions: the disk can be read, and holds at most 1048576 elements of a kind. -/
namespace Go.Proofs.YtehahodomfbpjaaGreatDoor
set_option linter.unusedVariables false
set_option maxRecDepth 100000
open Go.RowKit

set_option maxHeartbeats 4000000 in
theorem specLoadVault_c (A A2 : Option Addr) (n c n2 c2 B : Nat) (ss : List ByteArray) (ws : List (Int × ByteArray)) (w : World) (h : Strs w B A n ss) (h2 : Wrs w B A2 n2 ws) (hB : B ≤ w.heap.size) (hn : n ≤ 1048576) (hn2 : n2 ≤ 1048576) :
    Calls Tryz.prog 11 #[.agg #[.slice A n c, .slice A2 n2 c2]] w (RetLd w (ldA ss ws)) := by
  have r0 : Box ((w.alloc (.cells #[.slice A n c, .slice A2 n2 c2] 38)).alloc (.cells #[.int .i64 0, .int .i64 0, .int .i64 0, .int .i64 0, .slice none 0 0, .slice none 0 0, .slice none 0 0, .slice none 0 0] 33)) (w.heap.size + 1) 33 #[.int .i64 0, .int .i64 0, .int .i64 0, .int .i64 0, .slice none 0 0, .slice none 0 0, .slice none 0 0, .slice none 0 0] := by have := Box.new (w.alloc (.cells #[.slice A n c, .slice A2 n2 c2] 38)) 33 #[.int .i64 0, .int .i64 0, .int .i64 0, .int .i64 0, .slice none 0 0, .slice none 0 0, .slice none 0 0, .slice none 0 0]; rwa [World.size_alloc] at this
  have e0 : Box ((w.alloc (.cells #[.slice A n c, .slice A2 n2 c2] 38)).alloc (.cells #[.int .i64 0, .int .i64 0, .int .i64 0, .int .i64 0, .slice none 0 0, .slice none 0 0, .slice none 0 0, .slice none 0 0] 33)) w.heap.size 38 #[.slice A n c, .slice A2 n2 c2] := (Box.new w _ _).alloc _
  have hx0 := ((Nx.refl w).alloc (.cells #[.slice A n c, .slice A2 n2 c2] 38)).alloc (.cells #[.int .i64 0, .int .i64 0, .int .i64 0, .int .i64 0, .slice none 0 0, .slice none 0 0, .slice none 0 0, .slice none 0 0] 33)
  go_enter Tryz.func11, Tryz.ntmps11
  go_wp2_with fail
  generalize (w.alloc (.cells #[.slice A n c, .slice A2 n2 c2] 38)).alloc (.cells #[.int .i64 0, .int .i64 0, .int .i64 0, .int .i64 0, .slice none 0 0, .slice none 0 0, .slice none 0 0, .slice none 0 0] 33) = W at *
  obtain ⟨gR, Hg⟩ : ∃ g, Hid (w.heap.size + 1 = g) := ⟨_, rfl⟩
  have hgR : w.heap.size ≤ gR := by have := Hg.out; omega
  have hgR1 : w.heap.size < gR := by have := Hg.out; omega
  rw [Hg.out] at r0 ⊢
  have hltR0 := r0.lt
  refine (specDiskOK_c A A2 n c n2 c2 B ss ws _ (h.below hx0 hB) (h2.below hx0 hB) (Nat.le_trans hB hx0.size) hn hn2).mono ?_
  rintro e w1 ⟨rfl, hnx1⟩
  have r1 := r0.nx hnx1
  have e1 := e0.nx hnx1
  have hx1 := hx0.trans hnx1
  clear r0 e0
  cases hD : diskB ss ws with
  | false =>
    have HA := Lib.hid (ldA_bad hD)
    clear hD
    have rq := r1.row #[.int .i64 0, .int .i64 0, .int .i64 0, .int .i64 0, .slice none 0 0, .slice none 0 0, .slice none 0 0, .slice none 0 0]
    have hnf := hx1.setRow hgR #[.int .i64 0, .int .i64 0, .int .i64 0, .int .i64 0, .slice none 0 0, .slice none 0 0, .slice none 0 0, .slice none 0 0]
    go_wp2_with (refine wpList_store_row rfl _ _ _ rfl gR #[.int .i64 0, .int .i64 0, .int .i64 0, .int .i64 0, .slice none 0 0, .slice none 0 0, .slice none 0 0, .slice none 0 0] rfl rfl 33 #[.int .i64 0, .int .i64 0, .int .i64 0, .int .i64 0, .slice none 0 0, .slice none 0 0, .slice none 0 0, .slice none 0 0] r1 (by kernel_rfl) rfl (by simp [Value.oneCell']) ?_)
    generalize w1.setRow gR #[.int .i64 0, .int .i64 0, .int .i64 0, .int .i64 0, .slice none 0 0, .slice none 0 0, .slice none 0 0, .slice none 0 0] = Wf at *
    obtain ⟨g0, g1, g2, g3, g4, g5, g6, g7⟩ := rq.e8
    exact bodyPost_ret (v := .tuple #[.agg #[.int .i64 0, .int .i64 0, .int .i64 0, .int .i64 0, .slice none 0 0, .slice none 0 0, .slice none 0 0, .slice none 0 0], .int .i64 1]) (by simp [results, Tryz.results11, go_sem, g0, g1, g2, g3, g4, g5, g6, g7]) rfl ⟨zVl, w.heap.size, by rw [HA.out]; rfl, by rw [HA.out]; exact VlS.refl _, VlP.zero _ hnf.size, hnf⟩
  | true =>
    have HA := Lib.hid (ldA_yes hD)
    have HD := Lib.hid hD
    clear hD
    have z0 := e1.c0
    have z1 := e1.c1
    have hltR := r1.lt
    go_wp2_with fail
    refine (l05Load_c A A2 n c n2 c2 B ss ws _ (h.below hx1 hB) (h2.below hx1 hB) (Nat.le_trans hB hx1.size) hn hn2 HD.out).mono ?_
    rintro e w2 ⟨⟨g, b, p, q, Ax, cx, xs, Am, cm, ms, Ag, cg, gs, Ai, ci, im⟩, mid, rfl, hS, hP, hk2⟩
    have r2 := r1.nx hk2
    have hx2 := hx1.trans hk2
    have hl1 := hx1.size
    rw [← HA.out] at hS ⊢
    clear r1 e1 z0 z1 hltR0
    obtain ⟨cd, Hcd⟩ : ∃ cd, Hid ((ldA ss ws).2 = cd) := ⟨_, rfl⟩
    have HSv := Lib.hid hS
    rw [Hcd.out]
    simp only [Vl.v, Vl.cells]
    clear hS
    have rq := r2.row #[.int .i64 g, .int .i64 b, .int .i64 p, .int .i64 q, .slice Ax xs.length cx, .slice Am ms.length cm, .slice Ag gs.length cg, .slice Ai im.length ci]
    have hnf := hx2.setRow hgR #[.int .i64 g, .int .i64 b, .int .i64 p, .int .i64 q, .slice Ax xs.length cx, .slice Am ms.length cm, .slice Ag gs.length cg, .slice Ai im.length ci]
    have hvf := hP.rowfar hltR #[.int .i64 g, .int .i64 b, .int .i64 p, .int .i64 q, .slice Ax xs.length cx, .slice Am ms.length cm, .slice Ag gs.length cg, .slice Ai im.length ci]
    have hzf := size_setRow w2 gR #[.int .i64 g, .int .i64 b, .int .i64 p, .int .i64 q, .slice Ax xs.length cx, .slice Am ms.length cm, .slice Ag gs.length cg, .slice Ai im.length ci]
    go_wp2_with (refine wpList_store_row rfl _ _ _ rfl gR #[.int .i64 g, .int .i64 b, .int .i64 p, .int .i64 q, .slice Ax xs.length cx, .slice Am ms.length cm, .slice Ag gs.length cg, .slice Ai im.length ci] rfl rfl 33 #[.int .i64 0, .int .i64 0, .int .i64 0, .int .i64 0, .slice none 0 0, .slice none 0 0, .slice none 0 0, .slice none 0 0] r2 (by kernel_rfl) rfl (by simp [Value.oneCell']) ?_)
    generalize w2.setRow gR #[.int .i64 g, .int .i64 b, .int .i64 p, .int .i64 q, .slice Ax xs.length cx, .slice Am ms.length cm, .slice Ag gs.length cg, .slice Ai im.length ci] = Wf at *
    obtain ⟨g0, g1, g2, g3, g4, g5, g6, g7⟩ := rq.e8
    exact bodyPost_ret (v := .tuple #[.agg #[.int .i64 g, .int .i64 b, .int .i64 p, .int .i64 q, .slice Ax xs.length cx, .slice Am ms.length cm, .slice Ag gs.length cg, .slice Ai im.length ci], .int .i64 cd]) (by simp [results, Tryz.results11, go_sem, g0, g1, g2, g3, g4, g5, g6, g7]) rfl ⟨⟨g, b, p, q, Ax, cx, xs, Am, cm, ms, Ag, cg, gs, Ai, ci, im⟩, mid, by rw [Hcd.out]; rfl, HSv.out, (hvf.low hl1).up (by omega), hnf⟩
end Go.Proofs.YtehahodomfbpjaaGreatDoor
/- Contracts of the laws' functions that count the sizes of disks. Conditions: what is counted can be read. -/
namespace Go.Proofs.YtehahodomfbpjaaGreatDoor
set_option linter.unusedVariables false
set_option maxRecDepth 100000
open Go.RowKit

def AllS (ss : List ByteArray) : Prop := ∀ k, (ss.getD k ByteArray.empty).size ≤ 2 ^ 63 - 1
def AllW (ws : List (Int × ByteArray)) : Prop := ∀ k, (ws.getD k (0, ByteArray.empty)).2.size ≤ 2 ^ 63 - 1

set_option maxHeartbeats 1000000 in
theorem szStringS_c (A : Option Addr) (n c B : Nat) (ss : List ByteArray) (left : Int) (w : World) (h : Strs w B A n ss) (hm : AllS ss) (hn : n ≤ 2 ^ 63 - 1) (h0 : 0 ≤ left) (h1 : left ≤ 1048576) :
    Calls Tryz.prog 52 #[.slice A n c, .int .i64 left] w fun e w' => e = .returned (.int .i64 (szR left (n + lenS ss))) ∧ w = w' := by
  by_cases hle : (n : Int) ≤ left
  case neg =>
    have HF := Lib.hid (szR_no (left := left) (cost := n + lenS ss) (by omega))
    have hd : decide (left - (n : Int) < 0) = true := by simp; omega
    go_enter Tryz.func52, Tryz.ntmps52
    go_wp2
    go_ret
    exact ⟨ret_int HF.out, rfl⟩
  have hd : decide (left - (n : Int) < 0) = false := by simp; omega
  go_enter Tryz.func52, Tryz.ntmps52
  go_wp2
  go_loop [1, 5] (fun l i => ∃ k : Nat, k ≤ n ∧ i = .int .i64 k ∧ (n : Int) + lenSTo ss k ≤ left ∧ l = .int .i64 (left - (n + lenSTo ss k))) (fun _ i => n - (intOf i).toNat)
  case atStart => exact ⟨0, Nat.zero_le _, rfl, by rw [lenSTo_zero]; omega, by rw [lenSTo_zero]; go_num⟩
  case round =>
    obtain ⟨k, hk, rfl, hle2, rfl⟩ := hrel
    by_cases hlt : k < n
    · obtain ⟨b, off, rfl, hb, hc⟩ := h.at_ hlt
      have hmk := hm k
      have hsu := Lib.hid (lenSTo_succ ss k (by rw [h.1]; exact hlt))
      have hle3 := Lib.hid (lenSTo_le ss (k + 1))
      generalize ss.getD k ByteArray.empty = s at *
      by_cases hg : (n : Int) + (lenSTo ss k + s.size) ≤ left
      · have hd2 : decide (left - (n + lenSTo ss k) - (s.size : Int) < 0) = false := by simp; omega
        go_wp2
        go_round
        case rel => exact ⟨k + 1, by omega, by go_num, by rw [hsu.out]; omega, by rw [hsu.out]; go_num⟩
        case measure => simp [intOf]; omega
      · have hd2 : decide (left - (n + lenSTo ss k) - (s.size : Int) < 0) = true := by simp; omega
        go_wp2
        go_ret
        exact ⟨ret_int (szR_no (by have := hsu.out; have := hle3.out; omega)), rfl⟩
    · obtain rfl : k = n := by omega
      go_wp2
      go_ret
      refine ⟨ret_int ?_, rfl⟩
      have := lenSTo_all ss
      rw [h.1] at this
      rw [this] at hle2 ⊢
      exact szR_yes hle2

set_option maxHeartbeats 1000000 in
theorem szWrite_c (a : Int) (s : ByteArray) (left : Int) (w : World) (hm : s.size ≤ 2 ^ 63 - 1) (h0 : 0 ≤ left) (h1 : left ≤ 1048576) :
    Calls Tryz.prog 123 #[.agg #[.int .i64 a, .string s], .int .i64 left] w fun e w' => e = .returned (.int .i64 (szR left s.size)) ∧ Nx w w' := by
  by_cases hle : (s.size : Int) ≤ left
  · have HF := Lib.hid (szR_yes hle)
    have hd : decide (left - (s.size : Int) < 0) = false := by simp; omega
    go_enter Tryz.func123, Tryz.ntmps123
    go_wp2
    go_ret
    exact ⟨ret_int HF.out, (Nx.refl _).alloc _⟩
  · have HF := Lib.hid (szR_no (left := left) (cost := s.size) (by omega))
    have hd : decide (left - (s.size : Int) < 0) = true := by simp; omega
    go_enter Tryz.func123, Tryz.ntmps123
    go_wp2
    go_ret
    exact ⟨ret_int HF.out, (Nx.refl _).alloc _⟩

set_option maxHeartbeats 1000000 in
theorem szWriteS_c (A : Option Addr) (n c B : Nat) (ws : List (Int × ByteArray)) (left : Int) (w : World) (h : Wrs w B A n ws) (hB : B ≤ w.heap.size) (hm : AllW ws) (hn : n ≤ 2 ^ 63 - 1) (h0 : 0 ≤ left) (h1 : left ≤ 1048576) :
    Calls Tryz.prog 53 #[.slice A n c, .int .i64 left] w fun e w' => e = .returned (.int .i64 (szR left (n + lenW ws))) ∧ Nx w w' := by
  by_cases hle : (n : Int) ≤ left
  case neg =>
    have HF := Lib.hid (szR_no (left := left) (cost := n + lenW ws) (by omega))
    have hd : decide (left - (n : Int) < 0) = true := by simp; omega
    go_enter Tryz.func53, Tryz.ntmps53
    go_wp2
    go_ret
    exact ⟨ret_int HF.out, Nx.refl _⟩
  have hd : decide (left - (n : Int) < 0) = false := by simp; omega
  go_enter Tryz.func53, Tryz.ntmps53
  go_wp2
  go_loopw [1, 5] (fun l i wr => ∃ k : Nat, k ≤ n ∧ i = .int .i64 k ∧ (n : Int) + lenWTo ws k ≤ left ∧ l = .int .i64 (left - (n + lenWTo ws k)) ∧ Nx w wr) (fun _ i _ => n - (intOf i).toNat)
  case atStart => exact ⟨0, Nat.zero_le _, rfl, by rw [lenWTo_zero]; omega, by rw [lenWTo_zero]; go_num, Nx.refl _⟩
  case round =>
    obtain ⟨k, hk, rfl, hle2, rfl, hnx⟩ := hrel
    by_cases hlt : k < n
    · obtain ⟨b, off, rfl, hb, hc0, hc1⟩ := (h.below hnx hB).at_ hlt
      have hmk := hm k
      have hsu := Lib.hid (lenWTo_succ ws k (by rw [h.1]; exact hlt))
      have hle3 := Lib.hid (lenWTo_le ws (k + 1))
      have hl0 := Lib.hid h.1
      generalize ws.getD k (0, ByteArray.empty) = s at *
      obtain ⟨a, s⟩ := s
      by_cases hg : (n : Int) + (lenWTo ws k + s.size) ≤ left
      · have hd2 : decide (left - (n + lenWTo ws k) - (s.size : Int) < 0) = false := by simp; omega
        go_wp2_with fail
        refine (szWrite_c a s _ _ hmk (by omega) (by omega)).mono ?_
        rintro e w1 ⟨rfl, hnx1⟩
        rw [← szR_yes (by omega)]
        go_wp2
        go_roundw
        case rel => exact ⟨k + 1, by omega, by go_num, by rw [hsu.out]; omega, by rw [hsu.out]; go_num, hnx.trans hnx1⟩
        case measure => simp [intOf]; omega
      · go_wp2_with fail
        refine (szWrite_c a s _ _ hmk (by omega) (by omega)).mono ?_
        rintro e w1 ⟨rfl, hnx1⟩
        rw [← szR_no (by omega)]
        go_wp2
        go_ret
        exact ⟨ret_int (szR_no (by have := hsu.out; have := hle3.out; omega)), hnx.trans hnx1⟩
    · obtain rfl : k = n := by omega
      go_wp2
      go_ret
      refine ⟨ret_int ?_, hnx⟩
      have := lenWTo_all ws
      rw [h.1] at this
      rw [this] at hle2 ⊢
      exact szR_yes hle2

def costD (n n2 : Nat) (ss : List ByteArray) (ws : List (Int × ByteArray)) : Int := (n + lenS ss) + (n2 + lenW ws)
set_option maxHeartbeats 1000000 in
theorem szDisk_c (A A2 : Option Addr) (n c n2 c2 B : Nat) (ss : List ByteArray) (ws : List (Int × ByteArray)) (left : Int) (w : World) (h : Strs w B A n ss) (h2 : Wrs w B A2 n2 ws) (hB : B ≤ w.heap.size)
    (hm : AllS ss) (hm2 : AllW ws) (hn : n ≤ 2 ^ 63 - 1) (hn2 : n2 ≤ 2 ^ 63 - 1) (h0 : 0 ≤ left) (h1 : left ≤ 1048576) :
    Calls Tryz.prog 10 #[.agg #[.slice A n c, .slice A2 n2 c2], .int .i64 left] w fun e w' => e = .returned (.int .i64 (szR left (costD n n2 ss ws))) ∧ Nx w w' := by
  by_cases hle : (n : Int) + lenS ss ≤ left
  case neg =>
    have HF := Lib.hid (szR_no (left := left) (cost := costD n n2 ss ws) (by unfold costD; omega))
    go_enter Tryz.func10, Tryz.ntmps10
    go_wp2_with fail
    refine (szStringS_c A n c B ss left _ (h.below ((Nx.refl w).alloc _) hB) hm hn h0 h1).mono ?_
    rintro e w1 ⟨rfl, rfl⟩
    rw [← szR_no (by omega)]
    go_wp2
    go_ret
    exact ⟨ret_int HF.out, (Nx.refl _).alloc _⟩
  go_enter Tryz.func10, Tryz.ntmps10
  go_wp2_with fail
  refine (szStringS_c A n c B ss left _ (h.below ((Nx.refl w).alloc _) hB) hm hn h0 h1).mono ?_
  rintro e w1 ⟨rfl, rfl⟩
  rw [← szR_yes hle]
  have hd : decide (left - (n + lenS ss) < 0) = false := by simp; omega
  go_wp2_with fail
  refine (szWriteS_c A2 n2 c2 B ws _ _ (h2.below ((Nx.refl w).alloc _) hB) (Nat.le_trans hB (by simp)) hm2 hn2 (by omega) (by omega)).mono ?_
  rintro e w1 ⟨rfl, hnx⟩
  by_cases hle2 : (n2 : Int) + lenW ws ≤ left - (n + lenS ss)
  · rw [← szR_yes hle2]
    have hd : decide (left - (n + lenS ss) - (n2 + lenW ws) < 0) = false := by simp; omega
    go_wp2
    go_ret
    refine ⟨ret_int ?_, ((Nx.refl _).alloc _).trans hnx⟩
    rw [← szR_yes (by unfold costD; omega)]
    unfold costD
    omega
  · rw [← szR_no (by omega)]
    go_wp2
    go_ret
    exact ⟨ret_int (szR_no (by unfold costD; omega)), ((Nx.refl _).alloc _).trans hnx⟩
end Go.Proofs.YtehahodomfbpjaaGreatDoor
/- Contracts of the laws' functions that make the program's disks out of the laws' own. Conditions: what is copied can be read, and holds at most 1048576 elements. -/
namespace Go.Proofs.YtehahodomfbpjaaGreatDoor
set_option linter.unusedVariables false
set_option maxRecDepth 100000
open Go.RowKit

theorem info_str : (Tryz.prog.info? 9).map (fun i => (i.zero, i.size, i.bytes)) = some (some (.string ByteArray.empty), 1, 16) := by kernel_rfl
theorem info_wr : (Tryz.prog.info? 123).map (fun i => (i.zero, i.size, i.bytes)) = some (some (.agg #[.int .i64 0, .string ByteArray.empty]), 2, 24) := by kernel_rfl

set_option maxHeartbeats 1000000 in
theorem toStringS_c (A : Option Addr) (n c B : Nat) (ss : List ByteArray) (w : World) (h : Strs w B A n ss) (hB : B ≤ w.heap.size) (hn : n ≤ 1048576) :
    Calls Tryz.prog 56 #[.slice A n c] w (RetS w ss) := by
  obtain ⟨i0, hi0, hz0, hz1, hz2⟩ := info_parts info_str
  have hmk := fun W => run_make_rowN (P := Tryz.prog) 22 9 i0 _ Tryz.underlying22 hi0 hz0 .i64 .i64 n n (Nat.le_refl _) (by rw [hz2]; omega) (by omega) W
  rw [hz1] at hmk
  have hmade := Own.made w #[Value.string ByteArray.empty] n 9
  go_enter Tryz.func56, Tryz.ntmps56
  go_wp2
  go_loopw [4] (fun i wr => ∃ k : Nat, k ≤ n ∧ i = .int .i64 k ∧ Fill wr w.heap.size 9 n k (strAt ss) ∧ Nx w wr) (fun i _ => n - (intOf i).toNat)
  case atStart => exact ⟨0, Nat.zero_le _, rfl, Fill.start hmade, (Nx.refl _).alloc _⟩
  case round =>
    obtain ⟨k, hk, rfl, hf, hnx⟩ := hrel
    by_cases hlt : k < n
    · obtain ⟨b, off, rfl, hb, hc⟩ := (h.below hnx hB).at_ hlt
      obtain ⟨v, hv⟩ := hf.some_ hlt
      have hz := hf.frozen k
      clear hmk hmade
      obtain ⟨s, Hs⟩ : ∃ s, Hid (ss.getD k ByteArray.empty = s) := ⟨_, rfl⟩
      rw [Hs.out] at hc
      go_wp2
      go_roundw
      case rel => exact ⟨k + 1, by omega, by go_num, hf.step hlt (by unfold strAt; rw [Hs.out]), hnx.setCell (Nat.le_refl _) _⟩
      case measure => simp [intOf]; omega
    · obtain rfl : k = n := by omega
      go_wp2
      go_ret
      exact RetS.mk_own h.1 (Nat.le_refl _) (by have := hf.done; rw [← h.1] at this; exact this) hnx

set_option maxHeartbeats 1000000 in
theorem toWrite_c (a : Int) (s : ByteArray) (w : World) :
    Calls Tryz.prog 130 #[.agg #[.int .i64 a, .string s]] w fun e w' => e = .returned (.agg #[.int .i64 a, .string s]) ∧ Nx w w' := by
  go_enter Tryz.func130, Tryz.ntmps130
  go_wp2
  exact bodyPost_ret (v := .agg #[.int .i64 a, .string s]) (by simp [results, Tryz.results130, go_sem]) rfl ⟨rfl, ((((Nx.refl _).alloc _).alloc _).alloc _)⟩

set_option maxHeartbeats 1000000 in
theorem toWriteS_c (A : Option Addr) (n c B : Nat) (ws : List (Int × ByteArray)) (w : World) (h : Wrs w B A n ws) (hB : B ≤ w.heap.size) (hn : n ≤ 1048576) :
    Calls Tryz.prog 57 #[.slice A n c] w (RetW w ws) := by
  obtain ⟨i0, hi0, hz0, hz1, hz2⟩ := info_parts info_wr
  have hmk := fun W => run_make_rowN (P := Tryz.prog) 36 123 i0 _ Tryz.underlying36 hi0 hz0 .i64 .i64 n n (Nat.le_refl _) (by rw [hz2]; omega) (by omega) W
  rw [hz1] at hmk
  have hmade := Own.made w #[Value.int .i64 0, Value.string ByteArray.empty] (n * 2) 123
  go_enter Tryz.func57, Tryz.ntmps57
  go_wp2
  go_loopw [4] (fun i wr => ∃ k : Nat, k ≤ n ∧ i = .int .i64 k ∧ Fill wr w.heap.size 123 (n * 2) (k * 2) (wrAt ws) ∧ Nx w wr) (fun i _ => n - (intOf i).toNat)
  case atStart => exact ⟨0, Nat.zero_le _, rfl, Fill.start hmade, (Nx.refl _).alloc _⟩
  case round =>
    obtain ⟨k, hk, rfl, hf, hnx⟩ := hrel
    by_cases hlt : k < n
    · obtain ⟨b, off, rfl, hb, hc0, hc1⟩ := (h.below hnx hB).at_ hlt
      clear hmk hmade
      obtain ⟨⟨a, s⟩, Hs⟩ : ∃ s, Hid (ws.getD k (0, ByteArray.empty) = s) := ⟨_, rfl⟩
      rw [Hs.out] at hc0 hc1
      go_wp2_with fail
      refine (toWrite_c a s _).mono ?_
      rintro e w1 ⟨rfl, hnx1⟩
      have hf1 := hf.nx hnx1
      obtain ⟨v0, hv0⟩ := hf1.some_ (i := k * 2) (by omega)
      obtain ⟨v1, hv1⟩ := hf1.some_ (i := k * 2 + 1) (by omega)
      have hz0 := hf1.frozen (k * 2)
      have hz1 := hf1.frozen (k * 2 + 1)
      clear hc0 hc1
      go_wp2
      go_roundw
      case rel =>
        refine ⟨k + 1, by omega, by go_num, ?_, ((hnx.trans hnx1).setCell (Nat.le_refl _) _).setCell (Nat.le_refl _) _⟩
        have e2 : (k + 1) * 2 = k * 2 + 1 + 1 := by omega
        rw [e2]
        exact (hf1.step (by omega) (by rw [wrAt_even, Hs.out])).step (by omega) (by rw [wrAt_odd, Hs.out])
      case measure => simp [intOf]; omega
    · obtain rfl : k = n := by omega
      go_wp2
      go_ret
      exact RetW.mk_own h.1 (Nat.le_refl _) (by have := hf.done; rw [← h.1] at this; exact this) hnx

set_option maxHeartbeats 1000000 in
theorem toDisk_c (A A2 : Option Addr) (n c n2 c2 B : Nat) (ss : List ByteArray) (ws : List (Int × ByteArray)) (w : World) (h : Strs w B A n ss) (h2 : Wrs w B A2 n2 ws) (hB : B ≤ w.heap.size) (hn : n ≤ 1048576) (hn2 : n2 ≤ 1048576) :
    Calls Tryz.prog 12 #[.agg #[.slice A n c, .slice A2 n2 c2]] w (RetDisk w ss ws) := by
  go_enter Tryz.func12, Tryz.ntmps12
  go_wp2_with fail
  have b0 := ((Box.new w 25 #[.slice A n c, .slice A2 n2 c2]).alloc (.cells #[.slice none 0 0, .slice none 0 0] 38)).alloc (.cells #[.slice none 0 0, .slice none 0 0] 38)
  have b1 := (Box.new (w.alloc (.cells #[.slice A n c, .slice A2 n2 c2] 25)) 38 #[.slice none 0 0, .slice none 0 0]).alloc (.cells #[.slice none 0 0, .slice none 0 0] 38)
  have b2 := Box.new ((w.alloc (.cells #[.slice A n c, .slice A2 n2 c2] 25)).alloc (.cells #[.slice none 0 0, .slice none 0 0] 38)) 38 #[.slice none 0 0, .slice none 0 0]
  have hnx0 := (((Nx.refl w).alloc (.cells #[.slice A n c, .slice A2 n2 c2] 25)).alloc (.cells #[.slice none 0 0, .slice none 0 0] 38)).alloc (.cells #[.slice none 0 0, .slice none 0 0] 38)
  simp only [World.size_alloc] at b1 b2
  have hsz : (((w.alloc (.cells #[.slice A n c, .slice A2 n2 c2] 25)).alloc (.cells #[.slice none 0 0, .slice none 0 0] 38)).alloc (.cells #[.slice none 0 0, .slice none 0 0] 38)).heap.size = w.heap.size + 1 + 1 + 1 := by simp only [World.size_alloc]
  generalize (((w.alloc (.cells #[.slice A n c, .slice A2 n2 c2] 25)).alloc (.cells #[.slice none 0 0, .slice none 0 0] 38)).alloc (.cells #[.slice none 0 0, .slice none 0 0] 38)) = W at *
  have Hsz := Lib.hid hsz
  clear hsz
  refine (toStringS_c A n c B ss _ (h.below hnx0 hB) (by have := Hsz.out; omega) hn).mono ?_
  rintro e w1 ⟨A3, n3, c3, rfl, hS, hnx1⟩
  have b2' := b2.nx hnx1
  have b0' := b0.nx hnx1
  have c00 := b0'.c0
  have c01 := b0'.c1
  have c20 := b2'.c0
  have f20 := b2'.frozen 0
  go_wp2_with fail
  have b2s := b2'.set0 (.slice A3 n3 c3)
  have b1s := (b1.nx hnx1).far (p := ⟨w.heap.size + 1 + 1, 0, none⟩) (by simp) (.slice A3 n3 c3)
  have hSs := hS.far (p := ⟨w.heap.size + 1 + 1, 0, none⟩) (by have := Hsz.out; simp; omega) (.slice A3 n3 c3)
  have hnx2 := (hnx0.trans hnx1).setCell (p := ⟨w.heap.size + 1 + 1, 0, none⟩) (by simp; omega) (.slice A3 n3 c3)
  generalize w1.setCell ⟨w.heap.size + 1 + 1, 0, none⟩ (.slice A3 n3 c3) = W2 at *
  clear b2' b0' c00 c01 c20 f20 b0 b1 b2 hS hnx1
  refine (toWriteS_c A2 n2 c2 B ws _ (h2.below hnx2 hB) (Nat.le_trans hB hnx2.size) hn2).mono ?_
  rintro e w3 ⟨A4, n4, c4, rfl, hW, hnx3⟩
  have b2t := b2s.nx hnx3
  have b1t := b1s.nx hnx3
  have hSt := hSs.nx hnx3
  have c20 := b2t.c0
  have c21 := b2t.c1
  have f21 := b2t.frozen 1
  have c10 := b1t.c0
  have c11 := b1t.c1
  have f10 := b1t.frozen 0
  have f11 := b1t.frozen 1
  go_wp2
  have hz := Hsz.out
  have hz2 := b2s.lt
  have q := (((b1t.far (p := ⟨w.heap.size + 1 + 1, 1, none⟩) (by simp) (.slice A4 n4 c4)).set0 (.slice A3 n3 c3)).set1 (.slice A4 n4 c4))
  have q0 := q.c0
  have q1 := q.c1
  have hSf := ((hSt.far (p := ⟨w.heap.size + 1 + 1, 1, none⟩) (by simp; omega) (.slice A4 n4 c4)).far (p := ⟨w.heap.size + 1, 0, none⟩) (by simp; omega) (.slice A3 n3 c3)).far (p := ⟨w.heap.size + 1, 1, none⟩) (by simp; omega) (.slice A4 n4 c4)
  have hWf := ((hW.far (p := ⟨w.heap.size + 1 + 1, 1, none⟩) (by simp; omega) (.slice A4 n4 c4)).far (p := ⟨w.heap.size + 1, 0, none⟩) (by simp; omega) (.slice A3 n3 c3)).far (p := ⟨w.heap.size + 1, 1, none⟩) (by simp; omega) (.slice A4 n4 c4)
  have hnf := (((hnx2.trans hnx3).setCell (p := ⟨w.heap.size + 1 + 1, 1, none⟩) (by simp; omega) (.slice A4 n4 c4)).setCell (p := ⟨w.heap.size + 1, 0, none⟩) (by simp) (.slice A3 n3 c3)).setCell (p := ⟨w.heap.size + 1, 1, none⟩) (by simp) (.slice A4 n4 c4)
  generalize ((w3.setCell ⟨w.heap.size + 1 + 1, 1, none⟩ (.slice A4 n4 c4)).setCell ⟨w.heap.size + 1, 0, none⟩ (.slice A3 n3 c3)).setCell ⟨w.heap.size + 1, 1, none⟩ (.slice A4 n4 c4) = Wf at *
  exact bodyPost_ret (v := .agg #[.slice A3 n3 c3, .slice A4 n4 c4]) (by simp [results, Tryz.results12, go_sem, q0, q1]) rfl ⟨A3, n3, c3, A4, n4, c4, rfl, hSf.low (by omega), hWf.low (by have := hnx2.size; omega), hnf⟩
end Go.Proofs.YtehahodomfbpjaaGreatDoor
/- Contracts of the laws' functions that compare disks, where both sides hold the same. Conditions: both sides can be read and are alike. -/
namespace Go.Proofs.YtehahodomfbpjaaGreatDoor
set_option linter.unusedVariables false
set_option maxRecDepth 100000
open Go.RowKit

set_option maxRecDepth 100000 in
set_option maxHeartbeats 1000000 in
theorem eqStringS_c (A A2 : Option Addr) (n c c2 B : Nat) (ss : List ByteArray) (w : World) (h : Strs w B A n ss) (h2 : Strs w B A2 n ss) (hB : B ≤ w.heap.size) (hn : n ≤ 1048576) :
    Calls Tryz.prog 63 #[.slice A n c, .slice A2 n c2] w fun e w' => e = .returned (.bool true) ∧ Nx w w' := by
  go_enter Tryz.func63, Tryz.ntmps63
  go_wp2
  go_loopw [5] (fun i wr => ∃ k : Nat, k ≤ n ∧ i = .int .i64 k ∧ Nx w wr) (fun i _ => n - (intOf i).toNat)
  case atStart => exact ⟨0, Nat.zero_le _, rfl, Nx.refl _⟩
  case round =>
    obtain ⟨k, hk, rfl, hnx⟩ := hrel
    by_cases hlt : k < n
    · obtain ⟨b, off, rfl, hb, hc⟩ := (h.below hnx hB).at_ hlt
      obtain ⟨b2, off2, rfl, hb2, hc2⟩ := (h2.below hnx hB).at_ hlt
      generalize ss.getD k ByteArray.empty = s at hc hc2
      go_wp2
      go_quiet (fail)
      go_wp2
      go_roundw
      case rel => exact ⟨k + 1, by omega, by go_num, hnx.drewN _⟩
      case measure => simp [intOf]; omega
    · go_wp2
      go_ret
      exact ⟨rfl, hnx⟩

set_option maxRecDepth 100000 in
set_option maxHeartbeats 1000000 in
theorem eqWrite_c (a : Int) (s : ByteArray) (w : World) :
    Calls Tryz.prog 136 #[.agg #[.int .i64 a, .string s], .agg #[.int .i64 a, .string s]] w fun e w' => e = .returned (.bool true) ∧ Nx w w' := by
  go_enter Tryz.func136, Tryz.ntmps136
  go_wp2
  go_ret
  exact ⟨rfl, (((Nx.refl _).alloc _).alloc _)⟩

set_option maxRecDepth 100000 in
set_option maxHeartbeats 1000000 in
theorem eqWriteS_c (A A2 : Option Addr) (n c c2 B : Nat) (ws : List (Int × ByteArray)) (w : World) (h : Wrs w B A n ws) (h2 : Wrs w B A2 n ws) (hB : B ≤ w.heap.size) (hn : n ≤ 1048576) :
    Calls Tryz.prog 64 #[.slice A n c, .slice A2 n c2] w fun e w' => e = .returned (.bool true) ∧ Nx w w' := by
  go_enter Tryz.func64, Tryz.ntmps64
  go_wp2
  go_loopw [5] (fun i wr => ∃ k : Nat, k ≤ n ∧ i = .int .i64 k ∧ Nx w wr) (fun i _ => n - (intOf i).toNat)
  case atStart => exact ⟨0, Nat.zero_le _, rfl, Nx.refl _⟩
  case round =>
    obtain ⟨k, hk, rfl, hnx⟩ := hrel
    by_cases hlt : k < n
    · obtain ⟨b, off, rfl, hb, hc, hd⟩ := (h.below hnx hB).at_ hlt
      obtain ⟨b2, off2, rfl, hb2, hc2, hd2⟩ := (h2.below hnx hB).at_ hlt
      generalize ws.getD k (0, ByteArray.empty) = s at hc hc2 hd hd2
      obtain ⟨a, s⟩ := s
      go_wp2_with fail
      go_still_tail 8, (by kernel_rfl)
      change wpList _ _ _ _ _ wr.drew
      have hnx1 : Nx w wr.drew := Below.drew hnx
      generalize wr.drew = wd at *
      go_wp2_with fail
      refine (eqWrite_c a s _).mono ?_
      rintro e w1 ⟨rfl, hnx2⟩
      go_wp2
      go_roundw
      case rel => exact ⟨k + 1, by omega, by go_num, hnx1.trans hnx2⟩
      case measure => simp [intOf]; omega
    · go_wp2
      go_ret
      exact ⟨rfl, hnx⟩

set_option maxRecDepth 100000 in
set_option maxHeartbeats 1000000 in
theorem eqDisk_c (A A2 A3 A4 : Option Addr) (n c c3 n2 c2 c4 B : Nat) (ss : List ByteArray) (ws : List (Int × ByteArray)) (w : World) (h : Strs w B A n ss) (h3 : Strs w B A3 n ss) (h2 : Wrs w B A2 n2 ws) (h4 : Wrs w B A4 n2 ws)
    (hB : B ≤ w.heap.size) (hn : n ≤ 1048576) (hn2 : n2 ≤ 1048576) :
    Calls Tryz.prog 15 #[.agg #[.slice A n c, .slice A2 n2 c2], .agg #[.slice A3 n c3, .slice A4 n2 c4]] w fun e w' => e = .returned (.bool true) ∧ Nx w w' := by
  go_enter Tryz.func15, Tryz.ntmps15
  go_wp2_with fail
  have b0 := (Box.new w 38 #[.slice A n c, .slice A2 n2 c2]).alloc (.cells #[.slice A3 n c3, .slice A4 n2 c4] 38)
  have b1 := Box.new (w.alloc (.cells #[.slice A n c, .slice A2 n2 c2] 38)) 38 #[.slice A3 n c3, .slice A4 n2 c4]
  have hnx0 := ((Nx.refl w).alloc (.cells #[.slice A n c, .slice A2 n2 c2] 38)).alloc (.cells #[.slice A3 n c3, .slice A4 n2 c4] 38)
  simp only [World.size_alloc] at b1
  generalize ((w.alloc (.cells #[.slice A n c, .slice A2 n2 c2] 38)).alloc (.cells #[.slice A3 n c3, .slice A4 n2 c4] 38)) = W at *
  refine (eqStringS_c A A3 n c c3 B ss _ (h.below hnx0 hB) (h3.below hnx0 hB) (Nat.le_trans hB hnx0.size) hn).mono ?_
  rintro e w1 ⟨rfl, hnx1⟩
  have b0' := b0.nx hnx1
  have b1' := b1.nx hnx1
  have c00 := b0'.c0
  have c01 := b0'.c1
  have c10 := b1'.c0
  have c11 := b1'.c1
  have hnx2 := hnx0.trans hnx1
  go_wp2_with fail
  refine (eqWriteS_c A2 A4 n2 c2 c4 B ws _ (h2.below hnx2 hB) (h4.below hnx2 hB) (Nat.le_trans hB hnx2.size) hn2).mono ?_
  rintro e w2 ⟨rfl, hnx3⟩
  go_wp2
  go_ret
  exact ⟨rfl, hnx2.trans hnx3⟩
end Go.Proofs.YtehahodomfbpjaaGreatDoor
/- Contracts of the laws' functions that mark the memory of vaults: of what is marked only the shape is told. Conditions: the lists lie in blocks of the call's own; at most 1048576 of each. -/
namespace Go.Proofs.YtehahodomfbpjaaGreatDoor
set_option linter.unusedVariables false
set_option maxRecDepth 100000
open Go.RowKit

/-- Blocks of the call's own have kept their type and room. -/
def Shp (w w' : World) : Prop := ∀ g t m f, Own w g t m f → ∃ f', Own w' g t m f'
theorem Shp.refl (w : World) : Shp w w := fun _ _ _ f h => ⟨f, h⟩
theorem Shp.trans {a b c : World} (h : Shp a b) (k : Shp b c) : Shp a c := fun g t m f ho => by
  obtain ⟨f', h'⟩ := h g t m f ho; exact k g t m f' h'
theorem Own.setAny {w : World} {g m : Nat} {t : TypeId} {f : Nat → Value} (h : Own w g t m f) (i : Nat) (v : Value) : ∃ f', Own (w.setCell ⟨g, i, none⟩ v) g t m f' := by
  obtain ⟨cs, h, hm, hc⟩ := h
  refine ⟨fun j => if j = i then v else f j, cs.setIfInBounds i v, ?_, by simpa using hm, fun j hj => ?_⟩
  · simp [World.setCell, Array.getElem?_modify, h]
  · rw [Array.getElem?_setIfInBounds]
    by_cases e : i = j
    · subst e; rw [if_pos rfl, if_pos (by omega)]; simp
    · rw [if_neg e, hc j hj]; show some (f j) = some (if j = i then v else f j); rw [if_neg (fun h : j = i => e h.symm)]
theorem Shp.set {a w : World} (h : Shp a w) (g i : Nat) (v : Value) : Shp a (w.setCell ⟨g, i, none⟩ v) := fun g' t m f ho => by
  obtain ⟨f', h'⟩ := h g' t m f ho
  by_cases e : g' = g
  · subst e; exact h'.setAny i v
  · exact ⟨f', h'.far (by exact e) v⟩
theorem Shp.nx {a w w' : World} (h : Shp a w) (hb : Nx w w') : Shp a w' := fun g t m f ho => by
  obtain ⟨f', h'⟩ := h g t m f ho; exact ⟨f', h'.nx hb⟩
/-- Blocks of the call's own that hold neither segments nor changes have not turned. -/
def Ty2 (w w' : World) : Prop := ∀ g t m f, t ≠ 130 → t ≠ 202 → Own w g t m f → Own w' g t m f
theorem Ty2.refl (w : World) : Ty2 w w := fun _ _ _ _ _ _ h => h
theorem Ty2.trans {a b c : World} (h : Ty2 a b) (k : Ty2 b c) : Ty2 a c := fun g t m f h1 h2 ho => k g t m f h1 h2 (h g t m f h1 h2 ho)
theorem Ty2.ch {a w w' : World} (h : Ty2 a w) (k : TyK 202 w w') : Ty2 a w' := fun g t m f h1 h2 ho => k g t m f h2 (h g t m f h1 h2 ho)
theorem Ty2.set {a w : World} (h : Ty2 a w) {g i m : Nat} {f : Nat → Value} (ho : Own w g 130 m f) (v : Value) : Ty2 a (w.setCell ⟨g, i, none⟩ v) := fun g' t' m' f' h1 h2 h' =>
  (h g' t' m' f' h1 h2 h').far (Own.ne_type ho (h g' t' m' f' h1 h2 h') h1) v
end Go.Proofs.YtehahodomfbpjaaGreatDoor
/- Contract of the laws' function that marks the memory of a vault. Conditions: what is read can be read, and holds at most 1048576 elements of a kind. -/
namespace Go.Proofs.YtehahodomfbpjaaGreatDoor
set_option linter.unusedVariables false
set_option maxRecDepth 100000
open Go.RowKit

theorem Sr.own {w w' : World} {lo hi m : Nat} {A : Option Addr} {t : TypeId} {f : Nat → Value} (h : Sr w lo hi A t m f) (hk : ∀ g m f, Own w g t m f → Own w' g t m f) : Sr w' lo hi A t m f := fun hm => by
  obtain ⟨g, e, h1, h2, ho⟩ := h hm
  exact ⟨g, e, h1, h2, hk _ _ _ ho⟩
end Go.Proofs.YtehahodomfbpjaaGreatDoor
/- Contracts of the laws' functions that mark the memory of vaults and look for the marks, for vaults whose rows are told apart. Conditions: the lists lie in blocks of the call's own; a vault of at most 20 segments. -/
namespace Go.Proofs.YtehahodomfbpjaaGreatDoor
set_option linter.unusedVariables false
set_option maxRecDepth 100000
open Go.RowKit

/-- Only a row's own block has turned. -/
def Only (n : Nat) (A : Option Addr) (w w' : World) : Prop := ∀ g t m f, (0 < n → A ≠ some ⟨g, 0, none⟩) → Own w g t m f → Own w' g t m f
theorem Only.refl (n : Nat) (A : Option Addr) (w : World) : Only n A w w := fun _ _ _ _ _ h => h
theorem Only.set {n g i : Nat} {a w : World} (h : Only n (some ⟨g, 0, none⟩) a w) (hn : 0 < n) (v : Value) : Only n (some ⟨g, 0, none⟩) a (w.setCell ⟨g, i, none⟩ v) := fun g' t m f hne ho =>
  (h g' t m f hne ho).far (fun e => hne hn (by rw [show g' = g from e])) v
theorem Sr.only {w w' : World} {lo hi m n : Nat} {A A2 : Option Addr} {t : TypeId} {f : Nat → Value} (h : Sr w lo hi A t m f) (hb : Only n A2 w w') (hne : 0 < m → 0 < n → A ≠ A2) : Sr w' lo hi A t m f := fun hm => by
  obtain ⟨g, e, h1, h2, ho⟩ := h hm
  exact ⟨g, e, h1, h2, hb g t m f (fun hn he => hne hm hn (by rw [e, he])) ho⟩
set_option maxHeartbeats 1000000 in
theorem markChangeW_c (A : Option Addr) (n c k lo hi : Nat) (f : Nat → Value) (w : World) (h : Sr w lo hi A 202 (n * 3) f) (hn : n ≤ 1048576) (hk : k ≤ 3145729) :
    Calls Tryz.prog 139 #[.slice A n c, .int .i64 k] w fun e w' => e = .returned (.int .i64 ((k + n * 3 : Nat) : Int)) ∧ Sr w' lo hi A 202 (n * 3) (markAt k) ∧ Rg lo hi w w' ∧ TyK 202 w w' ∧ Only n A w w' := by
  have HS : FillG w lo hi A n 0 k := fun hn0 => by
    obtain ⟨g, e, h1, h2, ho⟩ := h (by omega)
    exact ⟨g, e, h1, h2, Fill.start ho⟩
  go_enter Tryz.func139, Tryz.ntmps139
  go_wp2
  go_loopw [1, 5] (fun q i wr => ∃ j : Nat, j ≤ n ∧ i = .int .i64 j ∧ q = .int .i64 ((k + j * 3 : Nat) : Int) ∧ FillG wr lo hi A n j k ∧ Rg lo hi w wr ∧ TyK 202 w wr ∧ Only n A w wr) (fun _ i _ => n - (intOf i).toNat)
  case atStart => exact ⟨0, Nat.zero_le _, rfl, rfl, HS, Rg.of_nx (Nx.refl _), TyK.refl _ _, Only.refl _ _ _⟩
  case round =>
    obtain ⟨j, hj, rfl, rfl, hf, hrg, hty, hon⟩ := hrel
    clear HS
    by_cases hlt : j < n
    · obtain ⟨g, rfl, hg1, hg2, hfill⟩ := hf (by omega)
      obtain ⟨q, Hq⟩ : ∃ q, Hid (k + j * 3 = q) := ⟨_, rfl⟩
      have hq9 : q ≤ 8000000 := by have := Hq.out; omega
      rw [Hq.out]
      obtain ⟨v0, hv0⟩ := hfill.some_ (i := j * 3) (by omega)
      obtain ⟨v1, hv1⟩ := hfill.some_ (i := j * 3 + 1) (by omega)
      obtain ⟨v2, hv2⟩ := hfill.some_ (i := j * 3 + 2) (by omega)
      have hz0 := hfill.frozen (j * 3)
      have hz1 := hfill.frozen (j * 3 + 1)
      have hz2 := hfill.frozen (j * 3 + 2)
      have e0 : Value.int .i64 (q : Int) = markAt k (j * 3) := by unfold markAt; rw [Hq.out]
      have e1 : Value.int .i64 ((q : Int) + 1) = markAt k (j * 3 + 1) := by unfold markAt; rw [← Hq.out]; go_num
      have e2 : Value.int .i64 ((q : Int) + 2) = markAt k (j * 3 + 1 + 1) := by unfold markAt; rw [← Hq.out]; go_num
      have e3 : ((q : Int) + 1 + 1) = (q : Int) + 2 := by omega
      have HR := Lib.hid (fun (v u x : Value) => ((hrg.setCell (p := ⟨g, j * 3, none⟩) hg1 hg2 v).setCell (p := ⟨g, j * 3 + 1, none⟩) hg1 hg2 u).setCell (p := ⟨g, j * 3 + 2, none⟩) hg1 hg2 x)
      have HO := Lib.hid (fun (v u x : Value) => ((hon.set (i := j * 3) (by omega) v).set (i := j * 3 + 1) (by omega) u).set (i := j * 3 + 2) (by omega) x)
      have HF := Lib.hid (fun (v u x : Value) (k0 : v = markAt k (j * 3)) (k1 : u = markAt k (j * 3 + 1)) (k2 : x = markAt k (j * 3 + 1 + 1)) => ((hfill.step (by omega) k0).step (by omega) k1).step (by omega) k2)
      have HT := Lib.hid (fun (v u x : Value) (k0 : v = markAt k (j * 3)) (k1 : u = markAt k (j * 3 + 1)) => ((hty.set_fill (i := j * 3) hfill v).set_fill (i := j * 3 + 1) (hfill.step (by omega) k0) u).set_fill (i := j * 3 + 2) ((hfill.step (by omega) k0).step (by omega) k1) x)
      have E0 := Lib.hid e0
      have E1 := Lib.hid e1
      have E2 := Lib.hid e2
      clear hf hrg hon hfill hty e0 e1 e2
      go_wp2
      try rw [e3]
      go_roundw
      case rel =>
        refine ⟨j + 1, by omega, by go_num, by rw [show k + (j + 1) * 3 = q + 3 by have := Hq.out; omega]; go_num, fun _ => ⟨g, rfl, hg1, hg2, ?_⟩, HR.out _ _ _, HT.out _ _ _ E0.out E1.out, HO.out _ _ _⟩
        rw [show (j + 1) * 3 = j * 3 + 1 + 1 + 1 by omega]
        exact HF.out _ _ _ E0.out E1.out E2.out
      case measure => simp [intOf]; omega
    · obtain rfl : j = n := by omega
      go_wp2
      go_ret
      refine ⟨rfl, fun hn0 => ?_, hrg, hty, hon⟩
      obtain ⟨g, e, h1, h2, ho⟩ := hf (by omega)
      exact ⟨g, e, h1, h2, ho.done⟩
end Go.Proofs.YtehahodomfbpjaaGreatDoor
/- Contracts of the laws' functions that mark the memory of lists of segments and look for the marks. Conditions: the rows lie in blocks of the call's own and are told apart; at most 20 segments. -/
namespace Go.Proofs.YtehahodomfbpjaaGreatDoor
set_option linter.unusedVariables false
set_option maxRecDepth 100000
open Go.RowKit

/-- The mark that a segment begins with. -/
def kOf (gs : List SgR) (k j : Nat) : Nat := k + j * 3 + ssum gs j * 3
theorem kOf_zero (gs : List SgR) (k : Nat) : kOf gs k 0 = k := by unfold kOf; rw [ssum_zero]; omega
theorem kOf_succ {gs : List SgR} (k : Nat) {j : Nat} (h : j < gs.length) : kOf gs k (j + 1) = kOf gs k j + 3 + (gs.getD j sgZ).cs.length * 3 := by unfold kOf; rw [ssum_succ h]; omega
theorem kOf_le {gs : List SgR} (k : Nat) {j : Nat} (h : j ≤ gs.length) (hn : gs.length ≤ 20) (hs : ssum gs gs.length ≤ 6000) : kOf gs k j ≤ k + 20000 := by
  have := ssum_le h (Nat.le_refl gs.length)
  unfold kOf; omega
def mkSg (gs : List SgR) (k i : Nat) : Value := if i % 4 = 3 then sgAt gs i else .int .i64 ((kOf gs k (i / 4) + i % 4 : Nat) : Int)
theorem mkSg0 (gs : List SgR) (k j : Nat) : mkSg gs k (j * 4) = .int .i64 (kOf gs k j) := by unfold mkSg; rw [if_neg (by omega), show j * 4 / 4 = j by omega, show j * 4 % 4 = 0 by omega]; rfl
theorem mkSg1 (gs : List SgR) (k j : Nat) : mkSg gs k (j * 4 + 1) = .int .i64 ((kOf gs k j : Int) + 1) := by unfold mkSg; rw [if_neg (by omega), show (j * 4 + 1) / 4 = j by omega, show (j * 4 + 1) % 4 = 1 by omega]; congr 1
theorem mkSg2 (gs : List SgR) (k j : Nat) : mkSg gs k (j * 4 + 2) = .int .i64 ((kOf gs k j : Int) + 2) := by unfold mkSg; rw [if_neg (by omega), show (j * 4 + 2) / 4 = j by omega, show (j * 4 + 2) % 4 = 2 by omega]; congr 1
theorem mkSg3 (gs : List SgR) (k j : Nat) : mkSg gs k (j * 4 + 3) = .slice (gs.getD j sgZ).A (gs.getD j sgZ).cs.length (gs.getD j sgZ).c := by unfold mkSg; rw [if_pos (by omega), sgAt3]
set_option maxHeartbeats 4000000 in
theorem markSegW_c (A : Option Addr) (c k lo hi : Nat) (gs : List SgR) (w : World) (h : Sr w lo hi A 130 (gs.length * 4) (sgAt gs)) (hch : ∀ i, i < gs.length → Sr w lo hi (gs.getD i sgZ).A 202 ((gs.getD i sgZ).cs.length * 3) (chAt (gs.getD i sgZ).cs)) (hdj : Dj gs)
    (hn : gs.length ≤ 20) (hm : ∀ i, i < gs.length → (gs.getD i sgZ).cs.length ≤ 300) (hs : ssum gs gs.length ≤ 6000) (hk : k ≤ 1000) :
    Calls Tryz.prog 68 #[.slice A gs.length c, .int .i64 k] w fun e w' => e = .returned (.int .i64 (kOf gs k gs.length : Nat)) ∧ Sr w' lo hi A 130 (gs.length * 4) (mkSg gs k)
      ∧ (∀ i, i < gs.length → Sr w' lo hi (gs.getD i sgZ).A 202 ((gs.getD i sgZ).cs.length * 3) (markAt (kOf gs k i + 3))) ∧ Rg lo hi w w' ∧ Ty2 w w' := by
  obtain ⟨n, Hn⟩ : ∃ n, Hid (gs.length = n) := ⟨_, rfl⟩
  have HKs := Lib.hid (fun j (hj : j < n) => kOf_succ (gs := gs) k (j := j) (by rw [Hn.out]; exact hj))
  have HKl := Lib.hid (fun j (hj : j ≤ n) => kOf_le (gs := gs) k (j := j) (by rw [Hn.out]; exact hj) hn hs)
  have HK0 := Lib.hid (kOf_zero gs k)
  have Hm := Lib.hid hm
  have Hdj := Lib.hid (fun i j (hi : i < n) (hj : j < n) => hdj i j (by rw [Hn.out]; exact hi) (by rw [Hn.out]; exact hj))
  rw [Hn.out] at Hm hn h hch ⊢
  have h0 : 0 < n → ∃ g, A = some ⟨g, 0, none⟩ ∧ lo ≤ g ∧ g < hi ∧ ∃ F, Own w g 130 (n * 4) F ∧ (∀ i, i < 0 * 4 → F i = mkSg gs k i) ∧ ∀ i, 0 * 4 ≤ i → i < n * 4 → F i = sgAt gs i := fun hn0 => by
    obtain ⟨g, e, h1, h2, ho⟩ := h (by omega)
    exact ⟨g, e, h1, h2, _, ho, fun i hi => absurd hi (by omega), fun _ _ _ => rfl⟩
  have Hch : Hid (∀ i, i < n → ∃ f, Sr w lo hi (gs.getD i sgZ).A 202 ((gs.getD i sgZ).cs.length * 3) f ∧ (i < 0 → f = markAt (kOf gs k i + 3))) := Lib.hid (fun i hi => ⟨_, hch i hi, fun h => absurd h (by omega)⟩)
  clear hm h hs hch hdj
  go_enter Tryz.func68, Tryz.ntmps68
  go_wp2
  go_loopw [1, 5] (fun q i wr => ∃ j : Nat, j ≤ n ∧ i = .int .i64 j ∧ q = .int .i64 (kOf gs k j : Nat) ∧ (0 < n → ∃ g, A = some ⟨g, 0, none⟩ ∧ lo ≤ g ∧ g < hi ∧ ∃ F, Own wr g 130 (n * 4) F ∧ (∀ i, i < j * 4 → F i = mkSg gs k i) ∧ ∀ i, j * 4 ≤ i → i < n * 4 → F i = sgAt gs i)
    ∧ (∀ i, i < n → ∃ f, Sr wr lo hi (gs.getD i sgZ).A 202 ((gs.getD i sgZ).cs.length * 3) f ∧ (i < j → f = markAt (kOf gs k i + 3))) ∧ Rg lo hi w wr ∧ Ty2 w wr) (fun _ i _ => n - (intOf i).toNat)
  case atStart => exact ⟨0, Nat.zero_le _, rfl, by rw [HK0.out], h0, Hch.out, Rg.of_nx (Nx.refl _), Ty2.refl _⟩
  case round =>
    obtain ⟨j, hj, rfl, rfl, hrow, hchs, hrg, hty⟩ := hrel
    clear h0 Hch
    by_cases hlt : j < n
    case neg =>
      obtain rfl : n = j := by omega
      go_wp2
      go_ret
      refine ⟨rfl, fun hm => ?_, fun i hi => ?_, hrg, hty⟩
      · obtain ⟨g, e, h1, h2, F, ho, hF, _⟩ := hrow (by omega)
        exact ⟨g, e, h1, h2, ho.congr hF⟩
      · obtain ⟨f, hf, hh⟩ := hchs i hi
        rw [← hh hi]; exact hf
    obtain ⟨g, rfl, hg1, hg2, F, ho, hF, hF2⟩ := hrow (by omega)
    have Hkj := Lib.hid (HKs.out j hlt)
    obtain ⟨r, Hr⟩ : ∃ r, Hid (kOf gs k j = r) := ⟨_, rfl⟩
    have hr9 : r ≤ 22000 := by have := HKl.out j (by omega); have := Hr.out; omega
    have hv0 := ho.cell (i := j * 4) (by omega)
    have hv1 := ho.cell (i := j * 4 + 1) (by omega)
    have hv2 := ho.cell (i := j * 4 + 2) (by omega)
    have hv3 := ho.cell (i := j * 4 + 3) (by omega)
    rw [hF2 _ (by omega) (by omega), sgAt3] at hv3
    have hz0 := ho.frozen (j * 4)
    have hz1 := ho.frozen (j * 4 + 1)
    have hz2 := ho.frozen (j * 4 + 2)
    have hmj := Hm.out j hlt
    have Hchs := Lib.hid hchs
    have Hset := Lib.hid (fun v u x => ((ho.set (k := j * 4) (by omega) v).set (k := j * 4 + 1) (by omega) u).set (k := j * 4 + 2) (by omega) x)
    have Hty := Lib.hid (fun v u x => ((hty.set (i := j * 4) ho v).set (i := j * 4 + 1) (ho.set (k := j * 4) (by omega) v) u).set (i := j * 4 + 2) ((ho.set (k := j * 4) (by omega) v).set (k := j * 4 + 1) (by omega) u) x)
    have Hfar := Lib.hid (fun (v u x : Value) (g' m' : Nat) (f' : Nat → Value) (ho' : Own wr g' 202 m' f') =>
      ((ho'.far (p := ⟨g, j * 4, none⟩) (Own.ne_type ho ho' (by decide)) v).far (p := ⟨g, j * 4 + 1, none⟩) (Own.ne_type ho ho' (by decide)) u).far (p := ⟨g, j * 4 + 2, none⟩) (Own.ne_type ho ho' (by decide)) x)
    have HF := Lib.hid hF
    have HF2 := Lib.hid hF2
    rw [Hr.out]
    have E0 : Hid (Value.int .i64 (r : Int) = mkSg gs k (j * 4)) := Lib.hid (by rw [mkSg0, Hr.out])
    have E1 : Hid (Value.int .i64 ((r : Int) + 1) = mkSg gs k (j * 4 + 1)) := Lib.hid (by rw [mkSg1, Hr.out])
    have E2 : Hid (Value.int .i64 ((r : Int) + 1 + 1) = mkSg gs k (j * 4 + 2)) := Lib.hid (by rw [mkSg2, Hr.out, show ((r : Int) + 1 + 1) = (r : Int) + 2 by omega])
    obtain ⟨v0, Hv0⟩ : ∃ v0, Hid (F (j * 4) = v0) := ⟨_, rfl⟩
    obtain ⟨v1, Hv1⟩ : ∃ v1, Hid (F (j * 4 + 1) = v1) := ⟨_, rfl⟩
    obtain ⟨v2, Hv2⟩ : ∃ v2, Hid (F (j * 4 + 2) = v2) := ⟨_, rfl⟩
    rw [Hv0.out] at hv0
    rw [Hv1.out] at hv1
    rw [Hv2.out] at hv2
    obtain ⟨⟨f, t9, m9, Ac, cc, cs⟩, Hsg⟩ : ∃ s, Hid (gs.getD j sgZ = s) := ⟨_, rfl⟩
    rw [Hsg.out] at hv3 hmj Hkj
    rw [Hr.out] at Hkj
    simp only at hv3 hmj Hkj
    clear hrow hchs hF hF2
    go_wp2_with fail
    rw [show ((r : Int) + 1 + 1 + 1) = ((r + 3 : Nat) : Int) by omega]
    have ho3 := Hset.out (.int .i64 r) (.int .i64 ((r : Int) + 1)) (.int .i64 ((r : Int) + 1 + 1))
    have hty3 := Hty.out (.int .i64 r) (.int .i64 ((r : Int) + 1)) (.int .i64 ((r : Int) + 1 + 1))
    have hrg3 := ((hrg.setCell (p := ⟨g, j * 4, none⟩) hg1 hg2 (.int .i64 r)).setCell (p := ⟨g, j * 4 + 1, none⟩) hg1 hg2 (.int .i64 ((r : Int) + 1))).setCell (p := ⟨g, j * 4 + 2, none⟩) hg1 hg2 (.int .i64 ((r : Int) + 1 + 1))
    have hfar3 := Hfar.out (.int .i64 r) (.int .i64 ((r : Int) + 1)) (.int .i64 ((r : Int) + 1 + 1))
    have hA3 : ∀ i, i < (j + 1) * 4 → (fun i => if i = j * 4 + 2 then (Value.int .i64 ((r : Int) + 1 + 1)) else (fun i => if i = j * 4 + 1 then (Value.int .i64 ((r : Int) + 1)) else (fun i => if i = j * 4 then (Value.int .i64 r) else F i) i) i) i = mkSg gs k i := fun i hi => by
      simp only
      by_cases e2 : i = j * 4 + 2
      · rw [if_pos e2, E2.out, e2]
      rw [if_neg e2]
      by_cases e1 : i = j * 4 + 1
      · rw [if_pos e1, E1.out, e1]
      rw [if_neg e1]
      by_cases e0 : i = j * 4
      · rw [if_pos e0, E0.out, e0]
      rw [if_neg e0]
      by_cases e3 : i = j * 4 + 3
      · rw [HF2.out i (by omega) (by omega), e3, sgAt3, mkSg3]
      · exact HF.out i (by omega)
    have hB3 : ∀ i, (j + 1) * 4 ≤ i → i < n * 4 → (fun i => if i = j * 4 + 2 then (Value.int .i64 ((r : Int) + 1 + 1)) else (fun i => if i = j * 4 + 1 then (Value.int .i64 ((r : Int) + 1)) else (fun i => if i = j * 4 then (Value.int .i64 r) else F i) i) i) i = sgAt gs i := fun i h1 h2 => by
      simp only
      rw [if_neg (by omega), if_neg (by omega), if_neg (by omega)]
      exact HF2.out i (by omega) h2
    clear ho hrg hty Hset Hty Hfar HF HF2 hv0 hv1 hv2 hv3 hz0 hz1 hz2
    generalize ((wr.setCell ⟨g, j * 4, none⟩ (.int .i64 r)).setCell ⟨g, j * 4 + 1, none⟩ (.int .i64 ((r : Int) + 1))).setCell ⟨g, j * 4 + 2, none⟩ (.int .i64 ((r : Int) + 1 + 1)) = W3 at *
    have HA3 := Lib.hid hA3
    have HB3 := Lib.hid hB3
    clear hA3 hB3
    have hS : ∃ f, Sr W3 lo hi Ac 202 (cs.length * 3) f := by
      obtain ⟨f1, hS1, _⟩ := Hchs.out j hlt
      rw [Hsg.out] at hS1
      exact ⟨f1, hS1.own hfar3⟩
    obtain ⟨f2, hS2⟩ := hS
    have HC3 := Lib.hid (fun i (hin : i < n) => (by
      obtain ⟨f5, h5, h6⟩ := Hchs.out i hin
      exact ⟨f5, h5.own hfar3, h6⟩ : ∃ f, Sr W3 lo hi (gs.getD i sgZ).A 202 ((gs.getD i sgZ).cs.length * 3) f ∧ (i < j → f = markAt (kOf gs k i + 3))))
    clear Hchs hfar3
    refine (markChangeW_c Ac cs.length cc (r + 3) lo hi f2 W3 hS2 (by omega) (by omega)).mono ?_
    rintro e w8 ⟨rfl, hS8, hrg8, hty8, hon8⟩
    have ho8 := hty8 _ _ _ _ (by decide) ho3
    have hrgz := hrg3.trans hrg8
    have htyz := hty3.ch hty8
    have HC : Hid (∀ i, i < n → ∃ f, Sr w8 lo hi (gs.getD i sgZ).A 202 ((gs.getD i sgZ).cs.length * 3) f ∧ (i < j + 1 → f = markAt (kOf gs k i + 3))) := Lib.hid (fun i hin => by
      by_cases e : i = j
      · subst e
        refine ⟨markAt (r + 3), ?_, fun _ => by rw [Hr.out]⟩
        rw [Hsg.out]; exact hS8
      · obtain ⟨f5, h5, h6⟩ := HC3.out i hin
        refine ⟨f5, h5.only hon8 (fun h1 h2 => ?_), fun h => h6 (by omega)⟩
        have := Hdj.out i j hin hlt e (by omega) (by rw [Hsg.out]; exact h2)
        rw [Hsg.out] at this
        exact this)
    clear HC3 ho3 hrg3 hty3 hS2 hS8 hrg8 hty8 hon8
    have Hrg := Lib.hid hrgz
    have Hty := Lib.hid htyz
    have Ho := Lib.hid ho8
    clear hrgz htyz ho8
    go_wp2
    go_roundw
    case rel => exact ⟨j + 1, by omega, by go_num, by rw [Hkj.out]; go_num, fun _ => ⟨g, rfl, hg1, hg2, _, Ho.out, HA3.out, HB3.out⟩, HC.out, Hrg.out, Hty.out⟩
    case measure => simp [intOf]; omega
set_option maxHeartbeats 4000000 in
theorem heldSegW_c (A : Option Addr) (c k B : Nat) (gs : List SgR) (w : World) (h : Row w B A (gs.length * 4) (mkSg gs k)) (hch : ∀ i, i < gs.length → Row w B (gs.getD i sgZ).A ((gs.getD i sgZ).cs.length * 3) (markAt (kOf gs k i + 3)))
    (hn : gs.length ≤ 20) (hm : ∀ i, i < gs.length → (gs.getD i sgZ).cs.length ≤ 300) (hs : ssum gs gs.length ≤ 6000) (hk : k ≤ 1000) :
    Calls Tryz.prog 71 #[.slice A gs.length c, .int .i64 k] w fun e w' => e = .returned (.int .i64 (kOf gs k gs.length : Nat)) ∧ w = w' := by
  obtain ⟨n, Hn⟩ : ∃ n, Hid (gs.length = n) := ⟨_, rfl⟩
  have HKs := Lib.hid (fun j (hj : j < n) => kOf_succ (gs := gs) k (j := j) (by rw [Hn.out]; exact hj))
  have HKl := Lib.hid (fun j (hj : j ≤ n) => kOf_le (gs := gs) k (j := j) (by rw [Hn.out]; exact hj) hn hs)
  have HK0 := Lib.hid (kOf_zero gs k)
  rw [Hn.out] at hm hn h hch ⊢
  have Hm := Lib.hid hm
  have Hch := Lib.hid hch
  clear hm hch hs
  go_enter Tryz.func71, Tryz.ntmps71
  go_wp2
  go_loop [1, 5] (fun q i => ∃ j : Nat, j ≤ n ∧ i = .int .i64 j ∧ q = .int .i64 (kOf gs k j : Nat)) (fun _ i => n - (intOf i).toNat)
  case atStart => exact ⟨0, Nat.zero_le _, rfl, by rw [HK0.out]⟩
  case round =>
    obtain ⟨j, hj, rfl, rfl⟩ := hrel
    by_cases hlt : j < n
    case neg =>
      obtain rfl : n = j := by omega
      go_wp2
      go_ret
      exact ⟨rfl, rfl⟩
    obtain ⟨b, off, rfl, hb, hc⟩ := h (by omega)
    have Hkj := Lib.hid (HKs.out j hlt)
    obtain ⟨r, Hr⟩ : ∃ r, Hid (kOf gs k j = r) := ⟨_, rfl⟩
    have hr9 : r ≤ 22000 := by have := HKl.out j (by omega); have := Hr.out; omega
    have hmj := Hm.out j hlt
    have hcj := Hch.out j hlt
    have c0 := hc (j * 4) (by omega)
    have c1 := hc (j * 4 + 1) (by omega)
    have c2 := hc (j * 4 + 2) (by omega)
    have c3 := hc (j * 4 + 3) (by omega)
    rw [mkSg0] at c0
    rw [mkSg1, ← Nat.add_assoc] at c1
    rw [mkSg2, ← Nat.add_assoc] at c2
    rw [mkSg3, ← Nat.add_assoc] at c3
    rw [Hr.out] at c0 c1 c2 hcj Hkj ⊢
    obtain ⟨⟨f, t9, m9, Ac, cc, cs⟩, Hsg⟩ : ∃ s, Hid (gs.getD j sgZ = s) := ⟨_, rfl⟩
    rw [Hsg.out] at c3 hmj Hkj hcj
    simp only at c3 hmj Hkj hcj
    have d2 : ((r : Int) + 2 != (r : Int) + 1 + 1) = false := by rw [bne_eq_false_iff_eq]; omega
    clear hc
    go_wp2_with fail
    rw [show ((r : Int) + 1 + 1 + 1) = ((r + 3 : Nat) : Int) by omega]
    refine (heldChangeS_c Ac cs.length cc (r + 3) B _ hcj (by omega) (by omega)).mono ?_
    rintro e w' ⟨rfl, hw'⟩
    rw [← hw']
    clear hw'
    have hd : decide (((r + 3 + cs.length * 3 : Nat) : Int) < 0) = false := by simp; omega
    obtain ⟨z, Hz⟩ : ∃ z, Hid (r + 3 + cs.length * 3 = z) := ⟨_, rfl⟩
    rw [Hz.out] at hd ⊢
    go_wp2
    go_round
    case rel => exact ⟨j + 1, by omega, by go_num, by rw [Hkj.out, Hz.out]⟩
    case measure => simp [intOf]; omega
end Go.Proofs.YtehahodomfbpjaaGreatDoor
/- Contracts of the laws' functions that mark the memory of a vault and look for the marks. Conditions: the vault's rows lie in blocks of the call's own and are told apart; its lists are short. -/
namespace Go.Proofs.YtehahodomfbpjaaGreatDoor
set_option linter.unusedVariables false
set_option maxRecDepth 100000
open Go.RowKit

def k1V (V : Vl) : Nat := 1 + V.xs.length + V.ms.length * 2
/-- The mark behind a vault's last one. -/
def totK (V : Vl) : Nat := kOf V.gs (k1V V) V.gs.length + V.im.length
/-- A vault's memory, marked. -/
structure MkV (w : World) (lo mid hi : Nat) (V : Vl) : Prop where
  tab : Sr w lo mid V.A 3 V.xs.length (mkAt 1)
  mks : Sr w lo mid V.A2 199 (V.ms.length * 2) (mrAt (markM (1 + V.xs.length) V.ms.length))
  row : Sr w mid hi V.A3 130 (V.gs.length * 4) (mkSg V.gs (k1V V))
  chs : ∀ i, i < V.gs.length → Sr w mid hi (V.gs.getD i sgZ).A 202 ((V.gs.getD i sgZ).cs.length * 3) (markAt (kOf V.gs (k1V V) i + 3))
  img : Sr w mid hi V.A4 3 V.im.length (mkAt (kOf V.gs (k1V V) V.gs.length))
theorem MkV.nx {w w' : World} {lo mid hi : Nat} {V : Vl} (h : MkV w lo mid hi V) (hb : Nx w w') : MkV w' lo mid hi V := ⟨h.tab.nx hb, h.mks.nx hb, h.row.nx hb, fun k hk => (h.chs k hk).nx hb, h.img.nx hb⟩
theorem Rg.up {lo lo' hi hi' : Nat} {w w' : World} (h : Rg lo hi w w') (h1 : lo' ≤ lo) (h2 : hi ≤ hi') : Rg lo' hi' w w' := ⟨h.os, h.tape, h.output, h.size, fun k hk hr => h.block k hk (by rcases hr with hr | hr <;> omega)⟩
set_option maxHeartbeats 2000000 in
theorem markVaultW_c (V : Vl) (lo mid hi : Nat) (w : World) (h : VlP w lo mid hi V) (hb : VlB V) (hz : hi ≤ w.heap.size) :
    Calls Tryz.prog 17 #[V.v, .int .i64 1] w fun e w' => e = .returned (.int .i64 (totK V : Nat)) ∧ MkV w' lo mid hi V ∧ Rg lo hi w w' := by
  have Htk : Hid (totK V = kOf V.gs (k1V V) V.gs.length + V.im.length) := Lib.hid rfl
  have Hk1 : Hid (k1V V = 1 + V.xs.length + V.ms.length * 2) := Lib.hid rfl
  have HMk := Lib.hid (fun (w' : World) (h1 : _) (h2 : _) (h3 : _) (h4 : _) (h5 : _) => (⟨h1, h2, h3, h4, h5⟩ : MkV w' lo mid hi V))
  obtain ⟨TK, HTK⟩ : ∃ q, Hid (totK V = q) := ⟨_, rfl⟩
  rw [HTK.out] at Htk ⊢
  obtain ⟨g, b, p, t, A, c, xs, A2, c2, ms, A3, c3, gs, A4, c4, im⟩ := V
  obtain ⟨h1, h2, h3, h5, h4, hdj, _, _, hle, hle2⟩ := h
  obtain ⟨bx, bm, bg, bc, bi, bs, _⟩ := hb
  simp only [Vl.v, Vl.cells] at *
  clear HTK
  obtain ⟨k1, HK1⟩ : ∃ q, Hid (k1V ⟨g, b, p, t, A, c, xs, A2, c2, ms, A3, c3, gs, A4, c4, im⟩ = q) := ⟨_, rfl⟩
  rw [HK1.out] at Hk1 Htk HMk
  have b0 := Box.new w 33 #[.int .i64 g, .int .i64 b, .int .i64 p, .int .i64 t, .slice A xs.length c, .slice A2 ms.length c2, .slice A3 gs.length c3, .slice A4 im.length c4]
  have hx0 := (Nx.refl w).alloc (.cells #[.int .i64 g, .int .i64 b, .int .i64 p, .int .i64 t, .slice A xs.length c, .slice A2 ms.length c2, .slice A3 gs.length c3, .slice A4 im.length c4] 33)
  have hRa : Rg lo hi w (w.alloc (.cells #[.int .i64 g, .int .i64 b, .int .i64 p, .int .i64 t, .slice A xs.length c, .slice A2 ms.length c2, .slice A3 gs.length c3, .slice A4 im.length c4] 33)) := Rg.of_nx hx0
  have t1 := h1.nx hx0
  have t2 := h2.nx hx0
  have t3 := h3.nx hx0
  have t4 := h4.nx hx0
  have T5 := Lib.hid (fun i (hi : i < gs.length) => (h5 i hi).nx hx0)
  have Bc := Lib.hid bc
  have Hdj := Lib.hid hdj
  have hz0 : w.heap.size < (w.alloc (.cells #[.int .i64 g, .int .i64 b, .int .i64 p, .int .i64 t, .slice A xs.length c, .slice A2 ms.length c2, .slice A3 gs.length c3, .slice A4 im.length c4] 33)).heap.size := by simp
  clear h1 h2 h3 h4 h5 hx0 hdj bc
  go_enter Tryz.func17, Tryz.ntmps17
  go_wp2_with fail
  generalize w.alloc (.cells #[.int .i64 g, .int .i64 b, .int .i64 p, .int .i64 t, .slice A xs.length c, .slice A2 ms.length c2, .slice A3 gs.length c3, .slice A4 im.length c4] 33) = W at *
  refine (markSuper_c g b p t A A2 xs.length c ms.length c2 1 lo mid _ _ W t1 t2 (by omega) (by omega) (by omega) (by omega)).mono ?_
  rintro e w1 ⟨rfl, s1, s2, hr1⟩
  have b1 := b0.rg hr1 (.inr (by omega))
  have s3 := t3.rg hr1 (.inr (Nat.le_refl _))
  have s4 := t4.rg hr1 (.inr (Nat.le_refl _))
  have S5 := Lib.hid (fun i (hi : i < gs.length) => (T5.out i hi).rg hr1 (.inr (Nat.le_refl _)))
  have hR1 := hRa.trans (hr1.up (Nat.le_refl _) hle2)
  have hz1 := hr1.size
  clear b0 t1 t2 t3 t4 T5 hr1 hRa
  obtain ⟨_, _, _, _, _, _, y6, y7⟩ := b1.e8
  rw [← Hk1.out]
  have hk9 : k1 ≤ 100 := by have := Hk1.out; omega
  go_wp2_with fail
  refine (markSegW_c A3 c3 k1 mid hi gs w1 s3 S5.out Hdj.out bg Bc.out bs (by omega)).mono ?_
  rintro e w2 ⟨rfl, u3, U5, hr2, ht2⟩
  have HU5 := Lib.hid U5
  clear U5
  have b2 := b1.rg hr2 (.inr (by omega))
  have u1 := s1.rg hr2 (.inl (Nat.le_refl _))
  have u2 := s2.rg hr2 (.inl (Nat.le_refl _))
  have u4 := s4.own (w' := w2) (fun g' m f ho => ht2 _ _ _ _ (by decide) (by decide) ho)
  have hR2 := hR1.trans (hr2.up hle (Nat.le_refl _))
  obtain ⟨k2, HK2⟩ : ∃ q, Hid (kOf gs k1 gs.length = q) := ⟨_, rfl⟩
  have hk8 : k2 ≤ 22000 := by have := kOf_le k1 (Nat.le_refl gs.length) bg bs; have := HK2.out; omega
  rw [HK2.out] at Htk HMk ⊢
  clear b1 s1 s2 s3 s4 S5 y6 y7 hR1 hr2 ht2
  obtain ⟨_, _, _, _, _, _, _, y7⟩ := b2.e8
  go_wp2_with fail
  refine (markIntT_c A4 im.length c4 k2 mid hi _ w2 u4 (by omega) (by omega)).mono ?_
  rintro e w3 ⟨rfl, v4, hr3, hty3⟩
  have v1 := u1.rg hr3 (.inl (Nat.le_refl _))
  have v2 := u2.rg hr3 (.inl (Nat.le_refl _))
  have v3 := u3.ty hty3 (by decide)
  have HV5 := Lib.hid (fun i (hi : i < gs.length) => (HU5.out i hi).ty hty3 (by decide))
  have hR3 := hR2.trans (hr3.up hle (Nat.le_refl _))
  have HFin := Lib.hid (HMk.out w3 v1 v2 v3 HV5.out v4)
  rw [← Htk.out]
  clear v1 v2 v3 v4 HV5 u1 u2 u3 u4 HU5 HMk
  go_wp2
  go_ret
  exact ⟨rfl, HFin.out, hR3⟩
set_option maxHeartbeats 2000000 in
theorem heldVault_c (V : Vl) (lo mid hi : Nat) (w : World) (h : MkV w lo mid hi V) (hb : VlB V) :
    Calls Tryz.prog 18 #[V.v, .int .i64 1] w fun e w' => e = .returned (.int .i64 (totK V : Nat)) ∧ Nx w w' := by
  have Htk : Hid (totK V = kOf V.gs (k1V V) V.gs.length + V.im.length) := Lib.hid rfl
  have Hk1 : Hid (k1V V = 1 + V.xs.length + V.ms.length * 2) := Lib.hid rfl
  obtain ⟨TK, HTK⟩ : ∃ q, Hid (totK V = q) := ⟨_, rfl⟩
  rw [HTK.out] at Htk ⊢
  obtain ⟨g, b, p, t, A, c, xs, A2, c2, ms, A3, c3, gs, A4, c4, im⟩ := V
  obtain ⟨h1, h2, h3, h5, h4⟩ := h
  obtain ⟨bx, bm, bg, bc, bi, bs, _⟩ := hb
  simp only [Vl.v, Vl.cells] at *
  clear HTK
  obtain ⟨k1, HK1⟩ : ∃ q, Hid (k1V ⟨g, b, p, t, A, c, xs, A2, c2, ms, A3, c3, gs, A4, c4, im⟩ = q) := ⟨_, rfl⟩
  rw [HK1.out] at Hk1 Htk h3 h4 h5
  have b0 := Box.new w 33 #[.int .i64 g, .int .i64 b, .int .i64 p, .int .i64 t, .slice A xs.length c, .slice A2 ms.length c2, .slice A3 gs.length c3, .slice A4 im.length c4]
  have hx0 := (Nx.refl w).alloc (.cells #[.int .i64 g, .int .i64 b, .int .i64 p, .int .i64 t, .slice A xs.length c, .slice A2 ms.length c2, .slice A3 gs.length c3, .slice A4 im.length c4] 33)
  have t1 := (h1.nx hx0).sl.row
  have t2 := (h2.nx hx0).sl.row
  have t3 := (h3.nx hx0).sl.row
  have t4 := (h4.nx hx0).sl.row
  have T5 := Lib.hid (fun i (hi : i < gs.length) => ((h5 i hi).nx hx0).sl.row)
  have Bc := Lib.hid bc
  clear h1 h2 h3 h4 h5 bc
  go_enter Tryz.func18, Tryz.ntmps18
  go_wp2_with fail
  generalize w.alloc (.cells #[.int .i64 g, .int .i64 b, .int .i64 p, .int .i64 t, .slice A xs.length c, .slice A2 ms.length c2, .slice A3 gs.length c3, .slice A4 im.length c4] 33) = W at *
  refine (heldSuper_c g b p t A A2 xs.length c ms.length c2 1 W.heap.size W t1 t2 (Nat.le_refl _) (by omega) (by omega) (by omega)).mono ?_
  rintro e w1 ⟨rfl, hx1⟩
  have b1 := b0.nx hx1
  have hX := hx0.trans hx1
  have s3 := t3.below hx1 (Nat.le_refl _)
  have s4 := t4.below hx1 (Nat.le_refl _)
  have S5 := Lib.hid (fun i (hi : i < gs.length) => (T5.out i hi).below hx1 (Nat.le_refl _))
  clear b0 t1 t2 t3 t4 T5 hx0 hx1
  obtain ⟨_, _, _, _, _, _, y6, y7⟩ := b1.e8
  rw [← Hk1.out]
  have hk9 : k1 ≤ 100 := by have := Hk1.out; omega
  have hd : decide ((k1 : Int) < 0) = false := by simp
  go_wp2_with fail
  refine (heldSegW_c A3 c3 k1 W.heap.size gs w1 s3 S5.out bg Bc.out bs (by omega)).mono ?_
  rintro e w2 ⟨rfl, hw⟩
  rw [← hw]
  clear hw
  obtain ⟨k2, HK2⟩ : ∃ q, Hid (kOf gs k1 gs.length = q) := ⟨_, rfl⟩
  have hk8 : k2 ≤ 22000 := by have := kOf_le k1 (Nat.le_refl gs.length) bg bs; have := HK2.out; omega
  rw [HK2.out] at Htk s4 ⊢
  have hd2 : decide ((k2 : Int) < 0) = false := by simp
  go_wp2_with fail
  refine (heldIntS_c A4 im.length c4 k2 W.heap.size _ s4 (by omega) (by omega)).mono ?_
  rintro e w3 ⟨rfl, hw⟩
  rw [← hw]
  clear hw
  rw [← Htk.out]
  have hd3 : decide ((TK : Int) < 0) = false := by simp
  go_wp2
  go_ret
  exact ⟨rfl, hX⟩
end Go.Proofs.YtehahodomfbpjaaGreatDoor
/- Vaults in memory; contracts of the laws' functions that make vaults; a vault that comes in, opened. Conditions: what is read can be read; copied or compared: at most 1048576 elements of a kind. -/
namespace Go.Proofs.YtehahodomfbpjaaGreatDoor
set_option linter.unusedVariables false
set_option maxRecDepth 100000
open Go.Joins Go.ChangeShapes Go.WideShapes Go.RowKit Go.Deep


section
variable {H : Type} {enc : TypeId × Value → H} {w : World} {base : Nat} {spare : Nat → Bool} {held : Bool}
end
end Go.Proofs.YtehahodomfbpjaaGreatDoor
/- The walk of the law FnExactLoadVault. Conditions: the disk that comes in can be read; the package's errors are known; the library's variables MaxLen and errorType too. -/
namespace Go.Proofs.YtehahodomfbpjaaGreatDoor
set_option linter.unusedVariables false
set_option maxRecDepth 100000
open Go.RowKit

theorem RetLd.un {w w' : World} {e : Ending} {g b p q : Int} {xs : List Int} {ms : List Mrk} {gs : List SgR} {im : List Int} {A0 A1 A2 A3 : Option Addr} {k0 k1 k2 k3 : Nat} {cd : Int} (h : RetLd w (⟨g, b, p, q, A0, k0, xs, A1, k1, ms, A2, k2, gs, A3, k3, im⟩, cd) e w') :
    ∃ A c A2' c2 A3' c3 gs' A4 c4 mid, e = .returned (.tuple #[.agg #[.int .i64 g, .int .i64 b, .int .i64 p, .int .i64 q, .slice A xs.length c, .slice A2' ms.length c2, .slice A3' gs'.length c3, .slice A4 im.length c4], .int .i64 cd])
      ∧ VlS ⟨g, b, p, q, A0, k0, xs, A1, k1, ms, A2, k2, gs, A3, k3, im⟩ ⟨g, b, p, q, A, c, xs, A2', c2, ms, A3', c3, gs', A4, c4, im⟩ ∧ VlP w' w.heap.size mid w'.heap.size ⟨g, b, p, q, A, c, xs, A2', c2, ms, A3', c3, gs', A4, c4, im⟩ ∧ Nx w w' := by
  obtain ⟨⟨g5, b5, p5, t5, A5, c5, xs5, A25, c25, ms5, A35, c35, gs5, A45, c45, im5⟩, mid, rfl, hs, hp, hk⟩ := h
  obtain ⟨e1, e2, e3, e4, e5, e6, e7, e8⟩ := hs
  simp only at e1 e2 e3 e4 e5 e6 e7 e8
  subst e1 e2 e3 e4 e5 e6 e8
  exact ⟨A5, c5, A25, c25, A35, c35, gs5, A45, c45, mid, rfl, ⟨rfl, rfl, rfl, rfl, rfl, rfl, e7, rfl⟩, hp, hk⟩
theorem MkV.rg {w w' : World} {lo mid hi a b : Nat} {V : Vl} (h : MkV w lo mid hi V) (hb : Rg a b w w') (hd : hi ≤ a ∨ b ≤ lo) (h1 : lo ≤ mid) (h2 : mid ≤ hi) : MkV w' lo mid hi V :=
  ⟨h.tab.rg hb (by omega), h.mks.rg hb (by omega), h.row.rg hb (by omega), fun k hk => (h.chs k hk).rg hb (by omega), h.img.rg hb (by omega)⟩
theorem VlP.rg {w w' : World} {lo mid hi a b : Nat} {V : Vl} (h : VlP w lo mid hi V) (hb : Rg a b w w') (hd : hi ≤ a ∨ b ≤ lo) : VlP w' lo mid hi V :=
  have h1 := h.le
  have h2 := h.le2
  ⟨h.tab.rg hb (by omega), h.mks.rg hb (by omega), h.row.rg hb (by omega), fun k hk => (h.chs k hk).rg hb (by omega), h.img.rg hb (by omega), h.dj, h.cap, h.cap3, h.le, h.le2⟩
theorem ldA_b (ss : List ByteArray) (ws : List (Int × ByteArray)) : VlB (ldA ss ws).1 := by
  cases hD : diskB ss ws with
  | false => rw [ldA_bad hD]; exact VlB.zero
  | true => rw [ldA_yes hD]; exact ldV_b hD
set_option maxHeartbeats 8000000 in
theorem lawLoadVault (A A2 : Option Addr) (n c n2 c2 : Nat) (ss : List ByteArray) (ws : List (Int × ByteArray)) (w : World) (a0 a1 : Addr) (hE : Er w a0 a1) (hMx : Mx w) (hEt : Et w) (h : Strs w w.heap.size A n ss) (h2 : Wrs w w.heap.size A2 n2 ws)
    (hm : AllS ss) (hm2 : AllW ws) (hn : n ≤ 2 ^ 63 - 1) (hn2 : n2 ≤ 2 ^ 63 - 1) :
    Calls Tryz.prog 3 #[.agg #[.slice A n c, .slice A2 n2 c2]] w fun e w' => e = .returned (.bool true) ∧ Nx w w' := by
  have hbb := ldA_b ss ws
  have hsp := fun A A2 n c n2 c2 B ww => specLoadVault_c A A2 n c n2 c2 B ss ws ww
  have him := fun A A2 n c n2 c2 B ww => implLoadVault_c A A2 n c n2 c2 B ss ws ww a0 a1
  obtain ⟨⟨⟨g, b, p, q, B0, k0, xs, B1, k1, ms, B2, k2, gs, B3, k3, im⟩, cd⟩, Hq⟩ : ∃ u, Hid (ldA ss ws = u) := ⟨_, rfl⟩
  rw [Hq.out] at hbb hsp him
  have HB := Lib.hid hbb
  have HSp := Lib.hid hsp
  have HIm := Lib.hid him
  clear hbb hsp him Hq
  go_enter Tryz.func3, Tryz.ntmps3
  go_wp2_with fail
  have b0 := Box.new w 25 #[.slice A n c, .slice A2 n2 c2]
  have hnx0 := (Nx.refl w).alloc (.cells #[.slice A n c, .slice A2 n2 c2] 25)
  generalize w.alloc (.cells #[.slice A n c, .slice A2 n2 c2] 25) = W at *
  refine (szDisk_c A A2 n c n2 c2 w.heap.size ss ws _ _ (h.below hnx0 (Nat.le_refl _)) (h2.below hnx0 (Nat.le_refl _)) hnx0.size hm hm2 hn hn2 (by omega) (by omega)).mono ?_
  rintro e w1 ⟨rfl, hnx1⟩
  by_cases hle : costD n n2 ss ws ≤ 1048576
  case neg =>
    rw [← szR_no (by omega)]
    go_wp2
    go_ret
    exact ⟨rfl, hnx0.trans hnx1⟩
  rw [← szR_yes hle]
  have hn' : n ≤ 1048576 := by unfold costD at hle; omega
  have hn2' : n2 ≤ 1048576 := by unfold costD at hle; omega
  have hd : decide (1048576 - costD n n2 ss ws < 0) = false := by simp; omega
  have b1 := b0.nx hnx1
  have c0 := b1.c0
  have c1 := b1.c1
  have hx1 := hnx0.trans hnx1
  clear b0 hnx0 hnx1
  go_wp2_with fail
  refine (toDisk_c A A2 n c n2 c2 w.heap.size ss ws _ (h.below hx1 (Nat.le_refl _)) (h2.below hx1 (Nat.le_refl _)) hx1.size hn' hn2').mono ?_
  rintro e w2 ⟨A3, n3, c3, A4, n4, c4, rfl, tS, tW, hnt⟩
  obtain rfl : n = n3 := h.1.symm.trans tS.1
  obtain rfl : n2 = n4 := h2.1.symm.trans tW.1
  have b2 := b1.nx hnt
  have hx2 := hx1.trans hnt
  clear c0 c1 b1 hx1 hnt
  go_wp2_with fail
  refine (HSp.out A3 A4 n c3 n2 c4 _ _ tS.strs tW.wrs (Nat.le_refl _) hn' hn2').mono ?_
  rintro e w3 hR
  obtain ⟨A5x, c5x, A5m, c5m, A5g, c5g, gs5, A5i, c5i, md5, rfl, hs5, hp5, hk5⟩ := hR.un
  have D := hp5.nx ((Nx.refl w3).alloc (.cells #[.int .i64 g, .int .i64 b, .int .i64 p, .int .i64 q, .slice A5x xs.length c5x, .slice A5m ms.length c5m, .slice A5g gs5.length c5g, .slice A5i im.length c5i] 33))
  have bD := Box.new w3 33 #[.int .i64 g, .int .i64 b, .int .i64 p, .int .i64 q, .slice A5x xs.length c5x, .slice A5m ms.length c5m, .slice A5g gs5.length c5g, .slice A5i im.length c5i]
  have hnx4 := hk5.alloc (.cells #[.int .i64 g, .int .i64 b, .int .i64 p, .int .i64 q, .slice A5x xs.length c5x, .slice A5m ms.length c5m, .slice A5g gs5.length c5g, .slice A5i im.length c5i] 33)
  have b4 := b2.nx hnx4
  have hx4 := hx2.trans hnx4
  have o0 := hx2.size
  have o1 := hk5.size
  have c0 := b4.c0
  have c1 := b4.c1
  have HS5 := Lib.hid hs5
  clear b2 hx2 hk5 hnx4 hp5 tS tW hR hs5
  go_wp2_with fail
  generalize w3.alloc (.cells #[.int .i64 g, .int .i64 b, .int .i64 p, .int .i64 q, .slice A5x xs.length c5x, .slice A5m ms.length c5m, .slice A5g gs5.length c5g, .slice A5i im.length c5i] 33) = w4 at *
  refine (toDisk_c A A2 n c n2 c2 w.heap.size ss ws _ (h.below hx4 (Nat.le_refl _)) (h2.below hx4 (Nat.le_refl _)) hx4.size hn' hn2').mono ?_
  rintro e w5 ⟨X1, p3, x1, X2, p4, x2, rfl, tS, tW, hnt⟩
  obtain rfl : n = p3 := h.1.symm.trans tS.1
  obtain rfl : n2 = p4 := h2.1.symm.trans tW.1
  have X := Dk.new (c := x1) (c2 := x2) tS tW
  have hnx6 := hnt.alloc (.cells #[.slice X1 n x1, .slice X2 n2 x2] 38)
  have o2 := bD.lt
  have o3 := hnt.size
  have D6 := D.nx hnx6
  have bD6 := bD.nx hnx6
  have b6 := b4.nx hnx6
  have hx6 := hx4.trans hnx6
  clear c0 c1 D bD b4 hx4 hnt hnx6 tS tW
  have c0 := X.c0
  have c1 := X.c1
  go_wp2_with fail
  generalize w5.alloc (.cells #[.slice X1 n x1, .slice X2 n2 x2] 38) = w6 at *
  refine (HIm.out X1 X2 n x1 n2 x2 _ _ X.strs X.wrs (Nat.le_refl _) hn' hn2' (hE.nx hx6) (hMx.nx hx6) (hEt.nx hx6)).mono ?_
  rintro e w7 hR
  obtain ⟨A6x, c6x, A6m, c6m, A6g, c6g, gs6, A6i, c6i, md6, rfl, hs6, hp6, hk6⟩ := hR.un
  have G := hp6.nx ((Nx.refl w7).alloc (.cells #[.int .i64 g, .int .i64 b, .int .i64 p, .int .i64 q, .slice A6x xs.length c6x, .slice A6m ms.length c6m, .slice A6g gs6.length c6g, .slice A6i im.length c6i] 33))
  have bG := Box.new w7 33 #[.int .i64 g, .int .i64 b, .int .i64 p, .int .i64 q, .slice A6x xs.length c6x, .slice A6m ms.length c6m, .slice A6g gs6.length c6g, .slice A6i im.length c6i]
  have hnx8 := hk6.alloc (.cells #[.int .i64 g, .int .i64 b, .int .i64 p, .int .i64 q, .slice A6x xs.length c6x, .slice A6m ms.length c6m, .slice A6g gs6.length c6g, .slice A6i im.length c6i] 33)
  have o4 := X.2.2.lt
  have o5 := hk6.size
  have D8 := D6.nx hnx8
  have bD8 := bD6.nx hnx8
  have X8 := X.nx hnx8
  have b8 := b6.nx hnx8
  have hx8 := hx6.trans hnx8
  have HS6 := Lib.hid hs6
  have HB6 := Lib.hid (HB.out.s hs6)
  clear c0 c1 D6 bD6 X b6 hx6 hk6 hnx8 hp6 hR hs6
  obtain ⟨y0, y1, y2, y3, y4, y5, y6, y7⟩ := bG.e8
  obtain ⟨z0, z1, z2, z3, z4, z5, z6, z7⟩ := bD8.e8
  have hlG := bG.lt
  have hlD := bD8.lt
  go_wp2_with fail
  generalize w7.alloc (.cells #[.int .i64 g, .int .i64 b, .int .i64 p, .int .i64 q, .slice A6x xs.length c6x, .slice A6m ms.length c6m, .slice A6g gs6.length c6g, .slice A6i im.length c6i] 33) = w8 at *
  refine (eqVault_c ⟨g, b, p, q, A6x, c6x, xs, A6m, c6m, ms, A6g, c6g, gs6, A6i, c6i, im⟩ ⟨g, b, p, q, A5x, c5x, xs, A5m, c5m, ms, A5g, c5g, gs5, A5i, c5i, im⟩ w8.heap.size w8 G.own.vlt D8.own.vlt (HS6.out.symm.trans HS5.out) (Nat.le_refl _) HB6.out.n).mono ?_
  rintro e w9 ⟨rfl, hnx9⟩
  have D9 := D8.nx hnx9
  have bD9 := bD8.nx hnx9
  have X9 := X8.nx hnx9
  have G9 := G.nx hnx9
  have bG9 := bG.nx hnx9
  have b9 := b8.nx hnx9
  have hx9 := hx8.trans hnx9
  clear y0 y1 y2 y3 y4 y5 y6 y7 z0 z1 z2 z3 z4 z5 z6 z7
  clear D8 bD8 X8 G bG b8 hx8 hd hlG hlD
  have rx : Nx w w9.drew := hx9.drew
  go_wp2_with fail
  refine wp_region_lex [false, false, true, true, false] (fun w' => w'.cell? ⟨w5.heap.size, 0, none⟩ = some (.slice X1 n x1) ∧ w'.cell? ⟨w5.heap.size, 1, none⟩ = some (.slice X2 n2 x2) ∧ w'.cell? ⟨w.heap.size, 0, none⟩ = some (.slice A n c) ∧ w'.cell? ⟨w.heap.size, 1, none⟩ = some (.slice A2 n2 c2)) (by kernel_rfl) (by kernel_rfl) rfl (by kernel_rfl) (fun _ _ d _ _ h => by cases d <;> exact h) (by exact ⟨X9.c0, X9.c1, b9.c0, b9.c1⟩) ?_
  repeat (first | (refine HL.take (v := ?_) (by rfl) ?_ ?_; rotate_left; (· (intro w hSw; (try dsimp only at hSw); go_simp; try with_reducible rfl)); (try simp only [Act.put, List.setIfInBounds_toArray, List.set_cons_zero, List.set_cons_succ])) | (refine HL.skip (by rfl) ?_; (try simp only [Act.put, List.setIfInBounds_toArray, List.set_cons_zero, List.set_cons_succ])))
  refine HL.call (by rfl) (fun K hK => ?_)
  go_simp
  refine (toDisk_c A A2 n c n2 c2 w.heap.size ss ws _ (h.below rx (Nat.le_refl _)) (h2.below rx (Nat.le_refl _)) rx.size hn' hn2').mono ?_; rintro e u1 ⟨AA, nA, cA, AB, nB, cB, rfl, hSA, hWB, hnxA⟩; obtain rfl : n = nA := h.1.symm.trans hSA.1; obtain rfl : n2 = nB := h2.1.symm.trans hWB.1; have X9a := X9.nx (Nx.drew_r hnxA); have b9a := b9.nx (Nx.drew_r hnxA)
  go_wp2_with fail
  refine hK.out _ _ (by exact ⟨X9a.c0, X9a.c1, b9a.c0, b9a.c1⟩) ?_
  clear hK K
  try simp only [Act.put, List.setIfInBounds_toArray, List.set_cons_zero, List.set_cons_succ]
  refine HL.call (by rfl) (fun K hK => ?_)
  go_simp
  refine (eqDisk_c X1 X2 AA AB n x1 cA n2 x2 cB _ ss ws _ X9a.strs hSA.strs X9a.wrs hWB.wrs (Nat.le_refl _) hn' hn2').mono ?_; rintro e w10 ⟨rfl, hnxB⟩; have X10 := X9a.nx hnxB; have b10 := b9a.nx hnxB
  go_wp2_with fail
  refine hK.out _ _ (by exact ⟨X10.c0, X10.c1, b10.c0, b10.c1⟩) ?_
  clear hK K
  try simp only [Act.put, List.setIfInBounds_toArray, List.set_cons_zero, List.set_cons_succ]
  repeat (first | (refine HL.take (v := ?_) (by rfl) ?_ ?_; rotate_left; (· (intro w hSw; (try dsimp only at hSw); go_simp; try with_reducible rfl)); (try simp only [Act.put, List.setIfInBounds_toArray, List.set_cons_zero, List.set_cons_succ])) | (refine HL.skip (by rfl) ?_; (try simp only [Act.put, List.setIfInBounds_toArray, List.set_cons_zero, List.set_cons_succ])))
  refine HL.done ?_
  have stw10 : Nx w9 w10 := (Nx.drew_r hnxA).trans hnxB
  clear hSA hWB rx X9a b9a
  have D10 := D9.nx stw10
  have bD10 := bD9.nx stw10
  have G10 := G9.nx stw10
  have bG10 := bG9.nx stw10
  have hx10 := hx9.trans stw10
  clear D9 bD9 X9 G9 bG9 b9 hx9 stw10 hnxA hnxB
  have c0 := X10.c0
  have c1 := X10.c1
  go_wp2_with fail
  refine (markDisk_c X1 X2 n x1 n2 x2 1 w4.heap.size w5.heap.size ss ws _ X10.1 X10.2.1 (Nat.le_of_lt X10.2.2.lt) hn' hn2' (by omega)).mono ?_
  rintro e w11 ⟨rfl, mS, mW, hr11⟩
  have D11 := D10.rg hr11 (.inl (by omega))
  have bD11 := bD10.rg hr11 (.inl (by omega))
  have G11 := G10.rg hr11 (.inr (by omega))
  have bG11 := bG10.rg hr11 (.inr (by omega))
  have b11 := b10.rg hr11 (.inl (by omega))
  have hx11 := Rg.nx_of hx10 hr11 (by omega)
  clear c0 c1 D10 bD10 G10 bG10 X10 b10 hx10 hr11 mS mW
  obtain ⟨y0, y1, y2, y3, y4, y5, y6, y7⟩ := bG11.e8
  obtain ⟨z0, z1, z2, z3, z4, z5, z6, z7⟩ := bD11.e8
  have hk0 : decide ((1 : Int) + n + n2 * 2 < 0) = false := by simp; omega
  go_wp2_with fail
  refine (eqVault_c ⟨g, b, p, q, A6x, c6x, xs, A6m, c6m, ms, A6g, c6g, gs6, A6i, c6i, im⟩ ⟨g, b, p, q, A5x, c5x, xs, A5m, c5m, ms, A5g, c5g, gs5, A5i, c5i, im⟩ w11.heap.size w11 G11.own.vlt D11.own.vlt (HS6.out.symm.trans HS5.out) (Nat.le_refl _) HB6.out.n).mono ?_
  rintro e w12 ⟨rfl, hnx12⟩
  have D12 := D11.nx hnx12
  have bD12 := bD11.nx hnx12
  have G12 := G11.nx hnx12
  have bG12 := bG11.nx hnx12
  have b12 := b11.nx hnx12
  have hx12 := hx11.trans hnx12
  clear y0 y1 y2 y3 y4 y5 y6 y7 z0 z1 z2 z3 z4 z5 z6 z7
  clear D11 bD11 G11 bG11 b11 hx11 hnx12
  obtain ⟨y0, y1, y2, y3, y4, y5, y6, y7⟩ := bG12.e8
  have hlG := bG12.lt
  go_wp2_with fail
  refine (markVaultW_c ⟨g, b, p, q, A6x, c6x, xs, A6m, c6m, ms, A6g, c6g, gs6, A6i, c6i, im⟩ w6.heap.size md6 w7.heap.size w12 G12 HB6.out (Nat.le_of_lt hlG)).mono ?_
  rintro e w13 ⟨rfl, M13, hr13⟩
  obtain ⟨M, HM⟩ : ∃ M, Hid (totK ⟨g, b, p, q, A6x, c6x, xs, A6m, c6m, ms, A6g, c6g, gs6, A6i, c6i, im⟩ = M) := ⟨_, rfl⟩
  have hM0 : decide ((M : Int) < 0) = false := by simp
  rw [HM.out]
  have l1 := G12.le
  have l2 := G12.le2
  have G13 := bG12.rg hr13 (.inr (Nat.le_refl _))
  have D13 := D12.rg hr13 (.inl (by omega))
  have bD13 := bD12.rg hr13 (.inl (by omega))
  have b13 := b12.rg hr13 (.inl (by omega))
  have hx13 := Rg.nx_of hx12 hr13 (by omega)
  clear y0 y1 y2 y3 y4 y5 y6 y7
  clear D12 bD12 G12 bG12 b12 hx12 hr13 hlG
  obtain ⟨y0, y1, y2, y3, y4, y5, y6, y7⟩ := G13.e8
  go_wp2_with fail
  refine (heldVault_c ⟨g, b, p, q, A6x, c6x, xs, A6m, c6m, ms, A6g, c6g, gs6, A6i, c6i, im⟩ w6.heap.size md6 w7.heap.size w13 M13 HB6.out).mono ?_
  rintro e w14 ⟨rfl, hnx14⟩
  rw [HM.out]
  have G14 := G13.nx hnx14
  have D14 := D13.nx hnx14
  have bD14 := bD13.nx hnx14
  have b14 := b13.nx hnx14
  have hx14 := hx13.trans hnx14
  have M14 := M13.nx hnx14
  clear y0 y1 y2 y3 y4 y5 y6 y7
  clear G13 D13 bD13 b13 hx13 hnx14 M13
  have c0 := b14.c0
  have c1 := b14.c1
  go_wp2_with fail
  refine (toDisk_c A A2 n c n2 c2 w.heap.size ss ws _ (h.below hx14 (Nat.le_refl _)) (h2.below hx14 (Nat.le_refl _)) hx14.size hn' hn2').mono ?_
  rintro e w15 ⟨Y1, r3, y3, Y2, r4, y4, rfl, tS, tW, hnt⟩
  obtain rfl : n = r3 := h.1.symm.trans tS.1
  obtain rfl : n2 = r4 := h2.1.symm.trans tW.1
  have G15 := G14.nx hnt
  have D15 := D14.nx hnt
  have bD15 := bD14.nx hnt
  have M15 := M14.nx hnt
  have hx15 := hx14.trans hnt
  clear c0 c1 G14 D14 bD14 b14 hx14 hnt M14
  go_wp2_with fail
  refine (HIm.out Y1 Y2 n y3 n2 y4 _ _ tS.strs tW.wrs (Nat.le_refl _) hn' hn2' (hE.nx hx15) (hMx.nx hx15) (hEt.nx hx15)).mono ?_
  rintro e w16 hR
  obtain ⟨A7x, c7x, A7m, c7m, A7g, c7g, gs7, A7i, c7i, md7, rfl, hs7, hp7, hk7⟩ := hR.un
  have H := hp7.nx ((Nx.refl w16).alloc (.cells #[.int .i64 g, .int .i64 b, .int .i64 p, .int .i64 q, .slice A7x xs.length c7x, .slice A7m ms.length c7m, .slice A7g gs7.length c7g, .slice A7i im.length c7i] 33))
  have bH := Box.new w16 33 #[.int .i64 g, .int .i64 b, .int .i64 p, .int .i64 q, .slice A7x xs.length c7x, .slice A7m ms.length c7m, .slice A7g gs7.length c7g, .slice A7i im.length c7i]
  have hnx17 := hk7.alloc (.cells #[.int .i64 g, .int .i64 b, .int .i64 p, .int .i64 q, .slice A7x xs.length c7x, .slice A7m ms.length c7m, .slice A7g gs7.length c7g, .slice A7i im.length c7i] 33)
  have G17 := G15.nx hnx17
  have D17 := D15.nx hnx17
  have bD17 := bD15.nx hnx17
  have M17 := M15.nx hnx17
  have hx17 := hx15.trans hnx17
  have HS7 := Lib.hid hs7
  have HB7 := Lib.hid (HB.out.s hs7)
  clear G15 D15 bD15 M15 hx15 hk7 hnx17 hp7 hR hs7 tS tW
  obtain ⟨y0, y1, y2, y3, y4, y5, y6, y7⟩ := bH.e8
  obtain ⟨z0, z1, z2, z3, z4, z5, z6, z7⟩ := bD17.e8
  have hlH := bH.lt
  have hlD := bD17.lt
  go_wp2_with fail
  generalize w16.alloc (.cells #[.int .i64 g, .int .i64 b, .int .i64 p, .int .i64 q, .slice A7x xs.length c7x, .slice A7m ms.length c7m, .slice A7g gs7.length c7g, .slice A7i im.length c7i] 33) = w17 at *
  refine (eqVault_c ⟨g, b, p, q, A7x, c7x, xs, A7m, c7m, ms, A7g, c7g, gs7, A7i, c7i, im⟩ ⟨g, b, p, q, A5x, c5x, xs, A5m, c5m, ms, A5g, c5g, gs5, A5i, c5i, im⟩ w17.heap.size w17 H.own.vlt D17.own.vlt (HS7.out.symm.trans HS5.out) (Nat.le_refl _) HB7.out.n).mono ?_
  rintro e w18 ⟨rfl, hnx18⟩
  have G18 := G17.nx hnx18
  have M18 := M17.nx hnx18
  have hx18 := hx17.trans hnx18
  clear y0 y1 y2 y3 y4 y5 y6 y7 z0 z1 z2 z3 z4 z5 z6 z7
  clear H bH D17 bD17 G17 M17 hx17 hnx18
  obtain ⟨y0, y1, y2, y3, y4, y5, y6, y7⟩ := G18.e8
  go_wp2_with fail
  refine (heldVault_c ⟨g, b, p, q, A6x, c6x, xs, A6m, c6m, ms, A6g, c6g, gs6, A6i, c6i, im⟩ w6.heap.size md6 w7.heap.size w18 M18 HB6.out).mono ?_
  rintro e w19 ⟨rfl, hnx19⟩
  rw [HM.out]
  have hx19 := hx18.trans hnx19
  go_wp2
  go_ret
  exact ⟨rfl, hx19⟩
end Go.Proofs.YtehahodomfbpjaaGreatDoor
/- A disk that comes in, opened: its texts and its writes as lists, and the cells that hold them. Conditions: the disk can be read. -/
namespace Go.Proofs.YtehahodomfbpjaaGreatDoor
set_option linter.unusedVariables false
set_option maxRecDepth 100000
open Go.Joins Go.ChangeShapes Go.WideShapes Go.RowKit Go.Deep

theorem c3_ : Tryz.prog.cellsOf 3 = 1 := by kernel_rfl
theorem c9_ : Tryz.prog.cellsOf 9 = 1 := by kernel_rfl
theorem cLD : Tryz.prog.cellsOf 25 = 2 := by kernel_rfl
theorem cLW : Tryz.prog.cellsOf 147 = 2 := by kernel_rfl

theorem addr_plain {w : World} {a : Addr} {v : Value} (h : w.cell? (a.add 0) = some v) : ∃ b off, a = ⟨b, off, none⟩ ∧ b < w.heap.size := by
  have h' : w.cell? a = some v := by simpa [Addr.add] using h
  have hs := World.cell?_spot h'
  obtain ⟨b, off, sp⟩ := a
  simp only at hs
  subst hs
  exact ⟨b, off, rfl, World.block_lt_of_cell? w _ h'⟩
theorem addr_add (b off i : Nat) : (Addr.mk b off none).add i = ⟨b, off + i, none⟩ := by
  unfold Addr.add
  by_cases h : i = 0
  · subst h; simp
  · simp [h]

section
variable {H : Type} {enc : TypeId × Value → H} {w : World} {base : Nat} {spare : Nat → Bool} {held : Bool}
theorem open_strs_ {fuel : Nat} {v : Value} {x : DataW H × List MemPlace} (h : DataW.trod enc Tryz.prog w base spare held fuel 22 [v] = some x) :
    ∃ (A : Option Addr) (n c : Nat) (ss : List ByteArray), v = .slice A n c ∧ Strs w w.heap.size A n ss ∧ AllS ss ∧ n ≤ 2 ^ 63 - 1 := by
  rcases open_strings Tryz.underlying22 Tryz.underlying9 c9_ h with ⟨hcs, _⟩ | ⟨a, len, cap, ss, hcs, _, hl, hm, hlen, _, hcell, hws⟩
  · refine ⟨none, 0, 0, [], by simpa using hcs, ⟨rfl, fun hn => absurd hn (by omega)⟩, fun k => by simp, by omega⟩
  · have hle : len ≤ ss.length := by rw [hlen]; split <;> omega
    unfold maxLen at hm hws
    refine ⟨some a, len, cap, ss.take len, by simpa using hcs, ⟨by simp [hle], fun hn => ?_⟩, fun k => ?_, by omega⟩
    · obtain ⟨b, off, rfl, hb⟩ := addr_plain (hcell 0 (by omega))
      refine ⟨b, off, rfl, hb, fun i hi => ?_⟩
      have := hcell i (by omega)
      rw [addr_add] at this
      dsimp only
      rw [this, List.getD_eq_getElem?_getD, List.getD_eq_getElem?_getD, List.getElem?_take_of_lt hi]
    · rw [List.getD_eq_getElem?_getD]
      by_cases hk : k < (ss.take len).length
      · rw [List.getElem?_eq_getElem hk]
        exact hws _ (List.mem_of_mem_take (List.getElem_mem hk))
      · rw [List.getElem?_eq_none (by omega)]
        simp
theorem open_writes_ {fuel : Nat} {v : Value} {x : DataW H × List MemPlace} (h : DataW.trod enc Tryz.prog w base spare held fuel 23 [v] = some x) :
    ∃ (A : Option Addr) (n c : Nat) (ws : List (Int × ByteArray)), v = .slice A n c ∧ Wrs w w.heap.size A n ws ∧ AllW ws ∧ n ≤ 2 ^ 63 - 1 := by
  rcases open_slice Tryz.underlying23 h with ⟨hcs, _⟩ | ⟨a, len, cap, m, n, D, Pl, hcs, _, hl, hm, hmm, _, hi⟩
  · refine ⟨none, 0, 0, [], by simpa using hcs, ⟨rfl, fun hn => absurd hn (by omega)⟩, fun k => by simp, by omega⟩
  · have hle : len ≤ m := by rw [hmm]; split <;> omega
    unfold maxLen at hm
    have key : ∀ i, ∃ p : Int × ByteArray, i < m → w.cell? (a.add (i * 2)) = some (.int .i64 p.1) ∧ w.cell? ((a.add (i * 2)).add 1) = some (.string p.2) ∧ p.2.size ≤ 2 ^ 63 - 1 := by
      intro i
      by_cases him : i < m
      · obtain ⟨cs', hc, ht⟩ := hi i him
        rw [cLW] at hc
        obtain ⟨_, hcl, hat⟩ := World.cells?_some hc
        obtain ⟨y0, y1, k, _, _, t0, t1⟩ := trod_struct2 Tryz.underlying147 ht
        match cs', hcl with
        | [u0, u1], _ =>
          have e0 : ∃ q, [u0] = [Value.int .i64 q] := by
            obtain ⟨q, e, _, _⟩ := DataW.trod_int (k := .i64) Tryz.underlying3 t0
            rw [c3_] at e
            exact ⟨q, e⟩
          have e1 : ∃ q, [u1] = [Value.string q] ∧ q.size ≤ maxLen := by
            obtain ⟨q, e, _, hq⟩ := DataW.trod_string Tryz.underlying9 t1
            rw [c9_] at e
            exact ⟨q, e, hq⟩
          obtain ⟨q0, e0⟩ := e0
          obtain ⟨q1, e1, hq⟩ := e1
          simp only [List.cons.injEq, and_true] at e0 e1
          subst e0 e1
          refine ⟨(q0, q1), fun _ => ⟨?_, hat 1 (by omega), by unfold maxLen at hq; exact hq⟩⟩
          have := hat 0 (by omega)
          simpa [Addr.add] using this
      · exact ⟨(0, ByteArray.empty), fun h => absurd h him⟩
    obtain ⟨g, hg⟩ := Classical.skolem.1 key
    have hget : ∀ k, k < len → ((List.range len).map g).getD k (0, ByteArray.empty) = g k := by
      intro k hk
      rw [List.getD_eq_getElem?_getD, List.getElem?_map, List.getElem?_range hk]; rfl
    refine ⟨some a, len, cap, (List.range len).map g, by simpa using hcs, ⟨by simp, fun hn => ?_⟩, fun k => ?_, by omega⟩
    · have h0 := (hg 0 (by omega)).1
      rw [Nat.zero_mul] at h0
      obtain ⟨b, off, rfl, hb⟩ := addr_plain h0
      refine ⟨b, off, rfl, hb, fun i hi => ?_⟩
      have h1 := (hg (i / 2) (by omega)).1
      have h2 := (hg (i / 2) (by omega)).2.1
      rw [addr_add] at h1 h2
      rw [addr_add] at h2
      dsimp only
      by_cases hp : i % 2 = 0
      · rw [if_pos hp, hget _ (by omega)]
        rw [show off + i = off + i / 2 * 2 by omega]
        exact h1
      · rw [if_neg hp, hget _ (by omega)]
        rw [show off + i = off + i / 2 * 2 + 1 by omega]
        exact h2
    · by_cases hk : k < len
      · rw [hget k hk]; exact (hg k (by omega)).2.2
      · rw [List.getD_eq_getElem?_getD, List.getElem?_eq_none (by simp; omega)]
        simp
theorem open_disk {r : Reach} {b0 : Nat} {v : Value} {d : DataW H} {p : List MemPlace} (hv : Value.okWide Tryz.prog w r b0 25 v) (h : DataW.Trod enc Tryz.prog w base spare held 25 v d p) :
    ∃ (A : Option Addr) (n c : Nat) (ss : List ByteArray) (A2 : Option Addr) (n2 c2 : Nat) (ws : List (Int × ByteArray)), v = .agg #[.slice A n c, .slice A2 n2 c2] ∧ Strs w w.heap.size A n ss ∧ Wrs w w.heap.size A2 n2 ws ∧
      AllS ss ∧ AllW ws ∧ n ≤ 2 ^ 63 - 1 ∧ n2 ≤ 2 ^ 63 - 1 := by
  obtain ⟨v0, v1, y0, y1, m, rfl, _, _, t0, t1⟩ := open_agg2 Tryz.underlying25 (by kernel_rfl) cLD hv h
  obtain ⟨A, n, c, ss, rfl, hS, hm, hn⟩ := open_strs_ t0
  obtain ⟨A2, n2, c2, ws, rfl, hW, hm2, hn2⟩ := open_writes_ t1
  exact ⟨A, n, c, ss, A2, n2, c2, ws, rfl, hS, hW, hm, hm2, hn, hn2⟩
end
end Go.Proofs.YtehahodomfbpjaaGreatDoor
/- From the listed errors, tables and type to what is known of them in memory, the world's shape kept. Conditions: the package's errors and the library's tables read as the program's text lays them, and the library's errorType too. -/
namespace Go.Proofs.YtehahodomfbpjaaGreatDoor
set_option maxRecDepth 100000
open Go.ChangeShapes Go.WideShapes Go.ChangeAt Go.WideMaps Go.WideElems Go.RowKit
theorem ownP : ownKnob Tryz.prog.godebug = none := by kernel_rfl
theorem laidOutP : laidOutB Tryz.prog = true := by kernel_rfl
theorem gLongP : Tryz.prog.globalNamed "loop.example/g00608/impl.errTextLong" = some 1 := by kernel_rfl
theorem gFormP : Tryz.prog.globalNamed "loop.example/g00608/impl.errTextForm" = some 0 := by kernel_rfl
theorem tLongP : (Tryz.prog.globals[1]?).map (·.type) = some 136 := by kernel_rfl
theorem tFormP : (Tryz.prog.globals[0]?).map (·.type) = some 136 := by kernel_rfl
theorem starP : "*" ++ "errors.errorString" = "*errors.errorString" := by decide
theorem rowEP (u : TypeId) (h : Tryz.prog.typeName? 3 u = some "*errors.errorString") : u = 304 :=
  typeName_ptr_named (nm := "errors.errorString") (by rw [starP]; kernel_rfl) (by kernel_rfl) (by decide) u (by rw [starP]; exact h)
theorem cellsEP : Tryz.prog.cellsOf 322 = 1 := by kernel_rfl
theorem cellsSP : Tryz.prog.cellsOf 9 = 1 := by kernel_rfl

theorem etP : Tryz.prog.globalNamed "errors.errorType" = some 2 := by kernel_rfl
theorem rtP : (Tryz.prog.cutTypes.find? (·.1 == "internal/reflectlite.rtype")).map (·.2) = some 262 := by kernel_rfl
theorem oneRowP : ((List.range (434 - 100)).filter fun t => Tryz.prog.rowNamed t [101, 114, 114, 111, 114]) = [136] := by kernel_rfl
theorem sizeP : Tryz.prog.types.size = 434 - 100 := by kernel_rfl
/-- The world with the type laid, ahead of the other variables. -/
noncomputable def typeWorld (os : Os) : World :=
  let w0 := World.holding Tryz.prog os ⟨#[], #[], []⟩
  { w0 with heap := w0.heap.modify 2 fun
      | .cells _ t frozen => .cells #[.iface 262 (.agg #[.pointer (some ⟨9, 136, none⟩)])] t frozen
      | o => o }
theorem et_of_handle {W : World} {l : List (String × DataW Unit)} (h : handlesMet Tryz.prog l W) (hl : ("errors.errorType", Rows.laid_errors_errorType) ∈ l) : Et W := by
  obtain ⟨name, u, ty, e1, e2, e3, e4, e5⟩ := h _ hl
  have en : name = [101, 114, 114, 111, 114] := (Option.some.inj e1).symm
  subst en
  obtain rfl := Option.some.inj (rtP.symm.trans e2)
  have hm : ty ∈ (List.range (434 - 100)).filter fun t => Tryz.prog.rowNamed t [101, 114, 114, 111, 114] := List.mem_filter.2 ⟨List.mem_range.2 (by rw [← sizeP]; exact e3), e4⟩
  rw [oneRowP] at hm
  obtain rfl := List.mem_singleton.1 hm
  have hh : typeHandle Tryz.prog 136 = .pointer (some ⟨9, 136, none⟩) := by kernel_rfl
  rw [hh] at e5
  unfold Et
  simpa using World.var?_cell etP e5 0
theorem laid_over {w0 : World} {laid : List (String × DataW Unit)} (args : Array Value) (hf : w0.layFits Tryz.prog laid [] = true) (hi : w0.layIfaces Tryz.prog laid (w0.layVars Tryz.prog laid) = true) :
    laidMet Tryz.prog laid ((w0.layVars Tryz.prog laid).forCall (fun _ _ => 0) ⟨#[], args, []⟩).memory := by
  have e1 : (laid.filter fun x => (laid.map (·.1)).contains x.1) = laid := List.filter_eq_self.2 fun x hx => List.contains_iff_mem.2 (List.mem_map.2 ⟨x, hx, rfl⟩)
  have e2 : (laid.filter fun x => !(laid.map (·.1)).contains x.1) = [] := List.filter_eq_nil_iff.2 fun x hx => by rw [List.contains_iff_mem.2 (List.mem_map.2 ⟨x, hx, rfl⟩)]; simp
  have h : laidMet Tryz.prog laid (w0.layVars Tryz.prog laid) := laidMet_layVars (w0 := w0) (laid.map (·.1)) [] (by rw [e1]) (by rw [e1]; exact hf) (by rw [e1]; exact hi) (by rw [e2]; exact LaidIn.none)
  exact h.of_heap (by simp [World.memory, World.forCall, Input.heap])
def plainQ : List (String × DataW Unit) := [("unicode/utf8.acceptRanges", Rows.laid_unicode_utf8_acceptRanges), ("loop.example/g00608/impl.errTextLong", Rows.laid_loop_example_g00608_impl_errTextLong), ("loop.example/g00608/impl.errTextForm", Rows.laid_loop_example_g00608_impl_errTextForm), ("unicode/utf8.first", Rows.laid_unicode_utf8_first)]
def laidP : List (String × DataW Unit) := [("unicode/utf8.acceptRanges", Rows.laid_unicode_utf8_acceptRanges), ("errors.errorType", Rows.laid_errors_errorType), ("loop.example/g00608/impl.errTextLong", Rows.laid_loop_example_g00608_impl_errTextLong), ("loop.example/g00608/impl.errTextForm", Rows.laid_loop_example_g00608_impl_errTextForm), ("unicode/utf8.first", Rows.laid_unicode_utf8_first)]
noncomputable def worldP (os : Os) : World := (typeWorld os).layVars Tryz.prog plainQ
theorem worldP_os (os : Os) : (worldP os).os = os := World.layVars_os _ _ _
theorem door_metP (os : Os) (args : Array Value) : laidMetH Tryz.prog laidP ((worldP os).forCall (fun _ _ => 0) ⟨#[], args, []⟩).memory :=
  laidMetH_of_parts (laid_over (laid := plainQ) args (by kernel_rfl) (by kernel_rfl)) (by kernel_rfl)
theorem of_laidP {W : World} (h : laidMetH Tryz.prog laidP W) : (∃ a0 a1, Er W a0 a1) ∧ Et W := by
  have h' : laidMet Tryz.prog plainQ W ∧ handlesMet Tryz.prog [("errors.errorType", Rows.laid_errors_errorType)] W := h
  obtain ⟨a1, a0, s1, s0, c1, c0, t1, t0, hv1, hv0, _, _, _, _, _, _, hne, hb1, hb0⟩ := laid_sentinels2 (laidMet.tail h'.1) gLongP tLongP gFormP tFormP Tryz.underlying136 rowEP Tryz.underlying304 Tryz.underlying322 rfl rfl Tryz.underlying9 cellsEP cellsSP
  exact ⟨⟨a0, a1, World.var?_cell gFormP hv0 0, World.var?_cell gLongP hv1 0, hne.symm, ⟨c0, t0, hb0⟩, c1, t1, hb1⟩, et_of_handle h'.2 (List.mem_singleton.2 rfl)⟩
theorem mx_of_shaped {W : World} (h : W.ShapedOpen Tryz.prog) : Mx W := cell_of_shapedOpen_int (zero := #[.int .i64 0]) h (of_decide_eq_true (by kernel_rfl)) (by kernel_rfl) rfl (by kernel_rfl) (by kernel_rfl) Tryz.underlying3
variable {H : Type} {enc : TypeId × Value → H}
/-- The wrap, the listed variables and the world's shape kept. -/
theorem handed_shaped {a : Assume} {C : Checked} {os : Os} {f : FuncId} {fn : Func} {s : ChangeSpec} {conds : List PathCond} {apart fresh handsOn again : Bool} {X : World → Array Value → Prop}
    (hX : ∀ (w w' : World) (args : Array Value), w.heap = w'.heap → X w args → X w' args)
    (own : ownKnob C.prog.godebug = none) (started : os.Started) (noInit : C.prog.inits.idxOf? f = none) (hfn : C.prog.funcs[f]? = some fn)
    (witness : ∃ (w : World) (tape : Tape) (i : Input), w.os = os ∧ (w.forCall tape i).Shaped C.prog ∧ i.vars = [] ∧ Input.okWide C.prog (w.forCall tape i) .any w.heap.size f i ∧
      ((s.pre enc C.prog fn conds apart (w.forCall tape i).memory i.args ∧ X (w.forCall tape i).memory i.args) ∧ sizedMet enc C.prog fn (OpenSpec.ofChange s) apart (w.forCall tape i).memory i.args) ∧ a.holds C.prog (lone (Frame.enter C.prog f i.args .normal) [] (w.forCall tape i)))
    (contract : ∀ (W : World) (base : Nat) (args : Array Value) (ds gs : List (DataW H)) (before : List MemPlace),
      (∀ (j : Nat) t v, fn.params[j]? = some t → args[j]? = some v → Value.okWide C.prog W .any base t v) →
      DataW.Whole enc C.prog fn.params.toList s.vars apart W args.toList ds gs before →
      W.ShapedOpen C.prog → X W args →
      Calls C.prog f args W fun e W' => ∃ v, e = .returned v ∧ s.post enc C.prog fn apart fresh handsOn again W args v W') :
    ReturnsInHanded a C os f .any (fun w args => (s.pre enc C.prog fn conds apart w args ∧ X w args) ∧ sizedMet enc C.prog fn (OpenSpec.ofChange s) apart w args) (s.post enc C.prog fn apart fresh handsOn again) := by
  refine returnsInHanded_of_calls own started noInit witness ?_
  intro w tape i _ hsh _ hok hpre hholds
  obtain ⟨_, _, _, fn', hfn', _, _, _, _, hval⟩ := hok
  have e : fn' = fn := Option.some.inj (hfn'.symm.trans hfn)
  subst e
  obtain ⟨⟨⟨ds, gs, before, hw, hc⟩, hx⟩, hz⟩ := hpre
  have hw' := DataW.Whole.of_heap (w' := w.forCall tape i) (by rfl) hw
  refine (contract (w.forCall tape i) w.heap.size i.args ds gs before hval hw' hsh (hX _ _ _ (by rfl) hx)).mono fun e W' ⟨v, he, hp⟩ => ?_
  subst he
  exact ChangeSpec.post_blind hp
end Go.Proofs.YtehahodomfbpjaaGreatDoor
