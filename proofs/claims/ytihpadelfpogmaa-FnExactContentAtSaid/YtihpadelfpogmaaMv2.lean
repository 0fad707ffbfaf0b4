/-
  Texts of the proof, put together in their order: Opf, Sgt, Mgs, Mgp, Sos, Soi, Opi, Sge, Mkg, Lfrm.
  Conditions: those of each.
-/
import Derived.Test.YtihpadelfpogmaaMv1
import Derived.Lib.SmallJoins
import Derived.ChangeSame
import Derived.Deep.Fields
import Derived.Deep.Slices
import Derived.Deep.Strs
import Derived.StillTailTactics
/- A frame that comes in, opened. Conditions: none. -/
namespace Go.Proofs.Ytihpadelfpogmaa
set_option linter.unusedVariables false
set_option maxRecDepth 100000
open Go.Joins Go.ChangeShapes Go.WideShapes Go.RowKit Go.Deep
theorem ci_ : Try.prog.cellsOf 3 = 1 := by kernel_rfl
section
variable {H : Type} {enc : TypeId × Value → H} {w : World} {base : Nat} {spare : Nat → Bool} {held : Bool}
theorem one_int {fuel : Nat} {v : Value} {x : DataW H × List MemPlace} (h : DataW.trod enc Try.prog w base spare held fuel 3 [v] = some x) : ∃ q, v = .int .i64 q ∧ (Lit.int .i64 q).wf = true := by
  obtain ⟨q, e, _, hw⟩ := DataW.trod_int (k := .i64) Try.underlying3 h
  exact ⟨q, by simpa using e, hw⟩
theorem open_frame {r : Reach} {b0 : Nat} {v : Value} {d : DataW H} {p : List MemPlace} (hv : Value.okWide Try.prog w r b0 51 v) (h : DataW.Trod enc Try.prog w base spare held 51 v d p) :
    ∃ a b c t : Int, v = .agg #[.int .i64 a, .int .i64 b, .int .i64 c, .int .i64 t] := by
  obtain ⟨v0, v1, v2, v3, y0, y1, y2, y3, m, rfl, _, _, t0, t1, t2, t3⟩ := open_agg4 Try.underlying51 (by kernel_rfl) (by kernel_rfl) hv h
  obtain ⟨q0, rfl, _⟩ := one_int t0
  obtain ⟨q1, rfl, _⟩ := one_int t1
  obtain ⟨q2, rfl, _⟩ := one_int t2
  obtain ⟨q3, rfl, _⟩ := one_int t3
  exact ⟨q0, q1, q2, q3, rfl⟩
end
end Go.Proofs.Ytihpadelfpogmaa
/- Contracts of the laws' functions that count the size of segments, and that make the program's segments out of the laws' own; a segment that comes in, opened. Conditions: what is counted or copied can be read; copied: it has at most 1048576 changes. -/
namespace Go.Proofs.Ytihpadelfpogmaa
set_option linter.unusedVariables false
set_option maxRecDepth 100000
open Go.Joins Go.ChangeShapes Go.WideShapes Go.RowKit Go.Deep

set_option maxHeartbeats 1000000 in
theorem szSeg_c (f t m : Int) (A : Option Addr) (n c : Nat) (left : Int) (w : World) (hn : n ≤ 2 ^ 63 - 1) (h0 : 0 ≤ left) (h1 : left ≤ 1048576) :
    Calls Try.prog 123 #[.agg #[.int .i64 f, .int .i64 t, .int .i64 m, .slice A n c], .int .i64 left] w fun e w' => e = .returned (.int .i64 (szR left n)) ∧ Nx w w' := by
  have key : ∀ W : World, Calls Try.prog 154 #[.slice A n c, .int .i64 left] W fun e w' => e = .returned (.int .i64 (szR left n)) ∧ W = w' := by
    intro W
    by_cases hle : (n : Int) ≤ left
    · have HF := Lib.hid (szR_yes hle)
      have hd : decide (left - (n : Int) < 0) = false := by simp; omega
      go_enter Try.func154, Try.ntmps154
      go_wp2
      go_ret
      exact ⟨ret_int HF.out, rfl⟩
    · have HF := Lib.hid (szR_no (left := left) (cost := n) (by omega))
      have hd : decide (left - (n : Int) < 0) = true := by simp; omega
      go_enter Try.func154, Try.ntmps154
      go_wp2
      go_ret
      exact ⟨ret_int HF.out, rfl⟩
  by_cases hle : (n : Int) ≤ left
  · have HF := Lib.hid (szR_yes hle)
    have hd : decide (left - (n : Int) < 0) = false := by simp; omega
    go_enter Try.func123, Try.ntmps123
    go_wp2_with fail
    refine (key _).mono ?_
    rintro e w1 ⟨rfl, rfl⟩
    rw [← HF.out]
    go_wp2
    go_ret
    exact ⟨ret_int HF.out, (Nx.refl _).alloc _⟩
  · have HF := Lib.hid (szR_no (left := left) (cost := n) (by omega))
    go_enter Try.func123, Try.ntmps123
    go_wp2_with fail
    refine (key _).mono ?_
    rintro e w1 ⟨rfl, rfl⟩
    rw [← HF.out]
    go_wp2
    go_ret
    exact ⟨ret_int HF.out, (Nx.refl _).alloc _⟩

theorem info_ch : (Try.prog.info? 84).map (fun i => (i.zero, i.size, i.bytes)) = some (some (.agg #[.int .i64 0, .int .i64 0, .int .i64 0]), 3, 24) := by kernel_rfl
set_option maxHeartbeats 1000000 in
theorem toChange_c (a b c : Int) (w : World) :
    Calls Try.prog 164 #[.agg #[.int .i64 a, .int .i64 b, .int .i64 c]] w fun e w' => e = .returned (.agg #[.int .i64 a, .int .i64 b, .int .i64 c]) ∧ Nx w w' := by
  go_enter Try.func164, Try.ntmps164
  go_wp2
  exact bodyPost_ret (v := .agg #[.int .i64 a, .int .i64 b, .int .i64 c]) (by simp [results, Try.results164, go_sem]) rfl ⟨rfl, ((((Nx.refl _).alloc _).alloc _).alloc _)⟩
/-- What a function leaves that answers a list of changes in new memory. -/
def RetC (w : World) (cs : List Chg) (e : Ending) (w' : World) : Prop := ∃ (A : Option Addr) (c : Nat), e = .returned (.slice A cs.length c) ∧ Sl w' w.heap.size A 84 (cs.length * 3) (chAt cs) ∧ Nx w w'
def RetG (w : World) (f t m : Int) (cs : List Chg) (e : Ending) (w' : World) : Prop := ∃ (A : Option Addr) (c : Nat), e = .returned (.agg #[.int .i64 f, .int .i64 t, .int .i64 m, .slice A cs.length c]) ∧ Sl w' w.heap.size A 84 (cs.length * 3) (chAt cs) ∧ Nx w w'
set_option maxHeartbeats 1000000 in
theorem toChangeS_c (A : Option Addr) (c B : Nat) (cs : List Chg) (w : World) (h : Chs w B A cs) (hB : B ≤ w.heap.size) (hn : cs.length ≤ 1048576) :
    Calls Try.prog 157 #[.slice A cs.length c] w (RetC w cs) := by
  obtain ⟨i0, hi0, hz0, hz1, hz2⟩ := info_parts info_ch
  have hmk := fun W => run_make_rowN (P := Try.prog) 52 84 i0 _ Try.underlying52 hi0 hz0 .i64 .i64 cs.length cs.length (Nat.le_refl _) (by rw [hz2]; omega) (by omega) W
  rw [hz1] at hmk
  have hmade := Own.made w #[Value.int .i64 0, Value.int .i64 0, Value.int .i64 0] (cs.length * 3) 84
  go_enter Try.func157, Try.ntmps157
  go_wp2
  go_loopw [4] (fun i wr => ∃ k : Nat, k ≤ cs.length ∧ i = .int .i64 k ∧ Fill wr w.heap.size 84 (cs.length * 3) (k * 3) (chAt cs) ∧ Nx w wr) (fun i _ => cs.length - (intOf i).toNat)
  case atStart => exact ⟨0, Nat.zero_le _, rfl, Fill.start hmade, (Nx.refl _).alloc _⟩
  case round =>
    obtain ⟨k, hk, rfl, hf, hnx⟩ := hrel
    by_cases hlt : k < cs.length
    · obtain ⟨b, off, rfl, hb, p0, p1, p2⟩ := (h.below hnx hB).at_ hlt
      clear hmk hmade
      obtain ⟨⟨x, y, z⟩, Hs⟩ : ∃ s, Hid (cs.getD k chZ = s) := ⟨_, rfl⟩
      rw [Hs.out] at p0 p1 p2
      go_wp2_with fail
      refine (toChange_c x y z _).mono ?_
      rintro e w1 ⟨rfl, hnx1⟩
      have hf1 := hf.nx hnx1
      obtain ⟨v0, hv0⟩ := hf1.some_ (i := k * 3) (by omega)
      obtain ⟨v1, hv1⟩ := hf1.some_ (i := k * 3 + 1) (by omega)
      obtain ⟨v2, hv2⟩ := hf1.some_ (i := k * 3 + 2) (by omega)
      have hz0 := hf1.frozen (k * 3)
      have hz1 := hf1.frozen (k * 3 + 1)
      have hz2 := hf1.frozen (k * 3 + 2)
      clear p0 p1 p2
      go_wp2
      go_roundw
      case rel =>
        refine ⟨k + 1, by omega, by go_num, ?_, (((hnx.trans hnx1).setCell (Nat.le_refl _) _).setCell (Nat.le_refl _) _).setCell (Nat.le_refl _) _⟩
        have e2 : (k + 1) * 3 = k * 3 + 1 + 1 + 1 := by omega
        rw [e2]
        exact ((hf1.step (by omega) (by rw [chAt0, Hs.out])).step (by omega) (by rw [chAt1, Hs.out])).step (by omega) (by rw [show k * 3 + 1 + 1 = k * 3 + 2 by omega, chAt2, Hs.out])
      case measure => simp [intOf]; omega
    · obtain rfl : k = cs.length := by omega
      go_wp2
      go_ret
      exact ⟨_, _, rfl, Sl.own hf.done (Nat.le_refl _), hnx⟩

set_option maxHeartbeats 1000000 in
theorem toSeg_c (f t m : Int) (A : Option Addr) (c B : Nat) (cs : List Chg) (w : World) (h : Chs w B A cs) (hB : B ≤ w.heap.size) (hn : cs.length ≤ 1048576) :
    Calls Try.prog 126 #[.agg #[.int .i64 f, .int .i64 t, .int .i64 m, .slice A cs.length c]] w (RetG w f t m cs) := by
  go_enter Try.func126, Try.ntmps126
  go_wp2_with fail
  have b1 := (Box.new (w.alloc (.cells #[.int .i64 f, .int .i64 t, .int .i64 m, .slice A cs.length c] 138)) 54 #[.int .i64 0, .int .i64 0, .int .i64 0, .slice none 0 0]).alloc (.cells #[.int .i64 f, .int .i64 t, .int .i64 m, .slice none 0 0] 54)
  have b2 := Box.new ((w.alloc (.cells #[.int .i64 f, .int .i64 t, .int .i64 m, .slice A cs.length c] 138)).alloc (.cells #[.int .i64 0, .int .i64 0, .int .i64 0, .slice none 0 0] 54)) 54 #[.int .i64 f, .int .i64 t, .int .i64 m, .slice none 0 0]
  have hnx0 := (((Nx.refl w).alloc (.cells #[.int .i64 f, .int .i64 t, .int .i64 m, .slice A cs.length c] 138)).alloc (.cells #[.int .i64 0, .int .i64 0, .int .i64 0, .slice none 0 0] 54)).alloc (.cells #[.int .i64 f, .int .i64 t, .int .i64 m, .slice none 0 0] 54)
  have hsz : (((w.alloc (.cells #[.int .i64 f, .int .i64 t, .int .i64 m, .slice A cs.length c] 138)).alloc (.cells #[.int .i64 0, .int .i64 0, .int .i64 0, .slice none 0 0] 54)).alloc (.cells #[.int .i64 f, .int .i64 t, .int .i64 m, .slice none 0 0] 54)).heap.size = w.heap.size + 1 + 1 + 1 := by simp only [World.size_alloc]
  simp only [World.size_alloc] at b1 b2
  generalize (((w.alloc (.cells #[.int .i64 f, .int .i64 t, .int .i64 m, .slice A cs.length c] 138)).alloc (.cells #[.int .i64 0, .int .i64 0, .int .i64 0, .slice none 0 0] 54)).alloc (.cells #[.int .i64 f, .int .i64 t, .int .i64 m, .slice none 0 0] 54)) = W at *
  have Hsz := Lib.hid hsz
  clear hsz
  refine (toChangeS_c A c B cs _ (h.below hnx0 hB) (by have := Hsz.out; omega) hn).mono ?_
  rintro e w1 ⟨A3, c3, rfl, hS, hnx1⟩
  have b1t := b1.nx hnx1
  have b2t := b2.nx hnx1
  obtain ⟨d0, d1, d2, d3⟩ := b2t.d4
  obtain ⟨e0, e1, e2, e3⟩ := b1t.d4
  have f23 := b2t.frozen 3
  have f10 := b1t.frozen 0
  have f11 := b1t.frozen 1
  have f12 := b1t.frozen 2
  have f13 := b1t.frozen 3
  go_wp2
  have hz := Hsz.out
  have q := ((((b1t.far (p := ⟨w.heap.size + 1 + 1, 3, none⟩) (by simp) (.slice A3 cs.length c3)).set 0 (.int .i64 f)).set 1 (.int .i64 t)).set 2 (.int .i64 m)).set 3 (.slice A3 cs.length c3)
  have hSf := ((((hS.far (p := ⟨w.heap.size + 1 + 1, 3, none⟩) (by simp; omega) (.slice A3 cs.length c3)).far (p := ⟨w.heap.size + 1, 0, none⟩) (by simp; omega) (.int .i64 f)).far (p := ⟨w.heap.size + 1, 1, none⟩) (by simp; omega) (.int .i64 t)).far (p := ⟨w.heap.size + 1, 2, none⟩) (by simp; omega) (.int .i64 m)).far (p := ⟨w.heap.size + 1, 3, none⟩) (by simp; omega) (.slice A3 cs.length c3)
  have hnf := (((((hnx0.trans hnx1).setCell (p := ⟨w.heap.size + 1 + 1, 3, none⟩) (by simp; omega) (.slice A3 cs.length c3)).setCell (p := ⟨w.heap.size + 1, 0, none⟩) (by simp) (.int .i64 f)).setCell (p := ⟨w.heap.size + 1, 1, none⟩) (by simp) (.int .i64 t)).setCell (p := ⟨w.heap.size + 1, 2, none⟩) (by simp) (.int .i64 m)).setCell (p := ⟨w.heap.size + 1, 3, none⟩) (by simp) (.slice A3 cs.length c3)
  generalize ((((w1.setCell ⟨w.heap.size + 1 + 1, 3, none⟩ (.slice A3 cs.length c3)).setCell ⟨w.heap.size + 1, 0, none⟩ (.int .i64 f)).setCell ⟨w.heap.size + 1, 1, none⟩ (.int .i64 t)).setCell ⟨w.heap.size + 1, 2, none⟩ (.int .i64 m)).setCell ⟨w.heap.size + 1, 3, none⟩ (.slice A3 cs.length c3) = Wf at *
  have g0 := q.cell 0
  have g1 := q.cell 1
  have g2 := q.cell 2
  have g3 := q.cell 3
  simp at g0 g1 g2 g3
  exact bodyPost_ret (v := .agg #[.int .i64 f, .int .i64 t, .int .i64 m, .slice A3 cs.length c3]) (by simp [results, Try.results126, go_sem, g0, g1, g2, g3]) rfl ⟨A3, c3, rfl, hSf.low (by omega), hnf⟩

theorem cLC : Try.prog.cellsOf 166 = 3 := by kernel_rfl
theorem cLG : Try.prog.cellsOf 138 = 4 := by kernel_rfl
theorem addr_plain {w : World} {a : Addr} {v : Value} (h : w.cell? (a.add 0) = some v) : ∃ b off, a = ⟨b, off, none⟩ ∧ b < w.heap.size := by
  have h' : w.cell? a = some v := by simpa [Addr.add] using h
  have hs := World.cell?_spot h'
  obtain ⟨b, off, sp⟩ := a
  simp only at hs
  subst hs
  exact ⟨b, off, rfl, World.block_lt_of_cell? w _ h'⟩
theorem addr_add (b off i : Nat) : (Addr.mk b off none).add i = ⟨b, off + i, none⟩ := by
  unfold Addr.add
  by_cases h : i = 0
  · subst h; simp
  · simp [h]
section
variable {H : Type} {enc : TypeId × Value → H} {w : World} {base : Nat} {spare : Nat → Bool} {held : Bool}
set_option maxRecDepth 100000 in
theorem open_chs_ {fuel : Nat} {v : Value} {x : DataW H × List MemPlace} (h : DataW.trod enc Try.prog w base spare held fuel 136 [v] = some x) :
    ∃ (A : Option Addr) (c : Nat) (cs : List Chg), v = .slice A cs.length c ∧ Chs w w.heap.size A cs ∧ cs.length ≤ 2 ^ 63 - 1 := by
  rcases open_slice Try.underlying136 h with ⟨hcs, _⟩ | ⟨a, len, cap, m, n, D, Pl, hcs, _, hl, hm, hmm, _, hi⟩
  · exact ⟨none, 0, [], by simpa using hcs, fun hn => absurd hn (by simp), by simp⟩
  · have hle : len ≤ m := by rw [hmm]; split <;> omega
    unfold maxLen at hm
    have key : ∀ i, ∃ p : Chg, i < m → w.cell? (a.add (i * 3)) = some (.int .i64 p.1) ∧ w.cell? ((a.add (i * 3)).add 1) = some (.int .i64 p.2.1) ∧ w.cell? ((a.add (i * 3)).add 2) = some (.int .i64 p.2.2) := by
      intro i
      by_cases him : i < m
      · obtain ⟨cs', hc, ht⟩ := hi i him
        rw [cLC] at hc
        obtain ⟨_, hcl, hat⟩ := World.cells?_some hc
        obtain ⟨y0, y1, y2, k, _, _, t0, t1, t2⟩ := trod_struct3 Try.underlying166 ht
        match cs', hcl with
        | [u0, u1, u2], _ =>
          have e0 : ∃ q, [u0] = [Value.int .i64 q] := by
            obtain ⟨q, e, _, _⟩ := DataW.trod_int (k := .i64) Try.underlying3 t0
            rw [ci_] at e
            exact ⟨q, e⟩
          have e1 : ∃ q, [u1] = [Value.int .i64 q] := by
            obtain ⟨q, e, _, _⟩ := DataW.trod_int (k := .i64) Try.underlying3 t1
            rw [ci_] at e
            exact ⟨q, e⟩
          have e2 : ∃ q, [u2] = [Value.int .i64 q] := by
            obtain ⟨q, e, _, _⟩ := DataW.trod_int (k := .i64) Try.underlying3 t2
            rw [ci_] at e
            exact ⟨q, e⟩
          obtain ⟨q0, e0⟩ := e0
          obtain ⟨q1, e1⟩ := e1
          obtain ⟨q2, e2⟩ := e2
          simp only [List.cons.injEq, and_true] at e0 e1 e2
          subst e0 e1 e2
          refine ⟨(q0, q1, q2), fun _ => ⟨?_, hat 1 (by omega), hat 2 (by omega)⟩⟩
          have := hat 0 (by omega)
          simpa [Addr.add] using this
      · exact ⟨(0, 0, 0), fun h => absurd h him⟩
    obtain ⟨g, hg⟩ := Classical.skolem.1 key
    have hget : ∀ k, k < len → ((List.range len).map g).getD k chZ = g k := by
      intro k hk
      rw [List.getD_eq_getElem?_getD, List.getElem?_map, List.getElem?_range hk]; rfl
    refine ⟨some a, cap, (List.range len).map g, by simpa using hcs, fun hn => ?_, by simp; omega⟩
    have hlen : ((List.range len).map g).length = len := by simp
    rw [hlen] at hn
    have h0 := (hg 0 (by omega)).1
    rw [Nat.zero_mul] at h0
    obtain ⟨b, off, rfl, hb⟩ := addr_plain h0
    refine ⟨b, off, rfl, hb, fun i hi => ?_⟩
    rw [hlen] at hi
    have h1 := (hg (i / 3) (by omega)).1
    have h2 := (hg (i / 3) (by omega)).2.1
    have h3 := (hg (i / 3) (by omega)).2.2
    rw [addr_add] at h1 h2 h3
    rw [addr_add] at h2 h3
    unfold chAt
    rw [hget _ (by omega)]
    by_cases hp : i % 3 = 0
    · rw [if_pos hp, show off + i = off + i / 3 * 3 by omega]
      exact h1
    · by_cases hp2 : i % 3 = 1
      · rw [if_neg hp, if_pos hp2, show off + i = off + i / 3 * 3 + 1 by omega]
        exact h2
      · rw [if_neg hp, if_neg hp2, show off + i = off + i / 3 * 3 + 2 by omega]
        exact h3
set_option maxRecDepth 100000 in
theorem open_seg {r : Reach} {b0 : Nat} {v : Value} {d : DataW H} {p : List MemPlace} (hv : Value.okWide Try.prog w r b0 138 v) (h : DataW.Trod enc Try.prog w base spare held 138 v d p) :
    ∃ (f t m : Int) (A : Option Addr) (c : Nat) (cs : List Chg), v = .agg #[.int .i64 f, .int .i64 t, .int .i64 m, .slice A cs.length c] ∧ Chs w w.heap.size A cs ∧ cs.length ≤ 2 ^ 63 - 1 := by
  obtain ⟨v0, v1, v2, v3, y0, y1, y2, y3, m, rfl, _, _, t0, t1, t2, t3⟩ := open_agg4 Try.underlying138 (by kernel_rfl) cLG hv h
  obtain ⟨q0, rfl, _⟩ := one_int t0
  obtain ⟨q1, rfl, _⟩ := one_int t1
  obtain ⟨q2, rfl, _⟩ := one_int t2
  obtain ⟨A, c, cs, rfl, hS, hn⟩ := open_chs_ t3
  exact ⟨q0, q1, q2, A, c, cs, rfl, hS, hn⟩
end
end Go.Proofs.Ytihpadelfpogmaa
/- Contract of the model's l03Merge. Conditions: the changes can be read; their blocks are blocks. -/
namespace Go.Proofs.Ytihpadelfpogmaa
set_option linter.unusedVariables false
set_option maxRecDepth 100000
open Go.RowKit

/-- How the model holds what may not be there. -/
def enc : Option Chg → Chg
  | none => (-1, 0, 0)
  | some c => c
def KeyOK (M : Int → Option Chg) : Prop := ∀ k p, M k = some p → p.1 = k
theorem noM_key : KeyOK noM := fun k p h => by cases h
theorem noteM_key {M : Int → Option Chg} (hM : KeyOK M) : ∀ cs, KeyOK (noteM M cs) := by
  intro cs
  induction cs generalizing M with
  | nil => exact hM
  | cons c cs ih =>
    have h2 : KeyOK (fun k => if c.1 = k then some c else M k) := fun k p h => by
      by_cases e : c.1 = k
      · simp only [e, if_true] at h; injection h with h; subst h; exact e
      · simp only [e, if_false] at h; exact hM k p h
    exact ih h2
theorem mgM_key {M : Int → Option Chg} (hM : KeyOK M) : ∀ cs, KeyOK (mgM M cs) := by
  intro cs
  induction cs generalizing M with
  | nil => exact hM
  | cons c cs ih =>
    have h2 : KeyOK (fun k => if c.1 = k then some (c.1, c.2.1, ((M k).getD c).2.2) else M k) := fun k p h => by
      by_cases e : c.1 = k
      · simp only [e, if_true] at h; injection h with h; subst h; rfl
      · simp only [e, if_false] at h; exact hM k p h
    exact ih h2
theorem enc_note {M : Int → Option Chg} {cs : List Chg} {i : Nat} (hi : i < cs.length) (k : Int) {q : Chg} (hq : cs.getD i chZ = q) : enc (noteM M (cs.take (i + 1)) k) = if q.1 = k then q else enc (noteM M (cs.take i) k) := by
  rw [noteM_succ M cs hi, hq]
  by_cases e : q.1 = k
  · simp [e, enc]
  · have e' : ¬ k = q.1 := fun h => e h.symm
    simp [e, e']
theorem enc_mg {M : Int → Option Chg} {cs : List Chg} {i : Nat} (hi : i < cs.length) (k : Int) {q : Chg} (hq : cs.getD i chZ = q) : enc (mgM M (cs.take (i + 1)) k) = if q.1 = k then (q.1, q.2.1, ((mgM M (cs.take i) k).getD q).2.2) else enc (mgM M (cs.take i) k) := by
  rw [mgM_succ M cs hi, hq]
  by_cases e : q.1 = k
  · subst e; simp [enc]
  · have e' : ¬ k = q.1 := fun h => e h.symm
    simp [e, e']

set_option maxRecDepth 100000 in
set_option maxHeartbeats 8000000 in
theorem l03Merge_c (f t m : Int) (A : Option Addr) (c : Nat) (l1 : List Chg) (f2 t2 m2 : Int) (A2 : Option Addr) (c2 : Nat) (l2 : List Chg) (B : Nat) (w : World) (h1 : Chs w B A l1) (h2 : Chs w B A2 l2) (hB : B ≤ w.heap.size) (hok1 : chsB l1 = true) (hok2 : chsB l2 = true) :
    Calls Try.prog 121 #[.agg #[.int .i64 f, .int .i64 t, .int .i64 m, .slice A l1.length c], .agg #[.int .i64 f2, .int .i64 t2, .int .i64 m2, .slice A2 l2.length c2]] w (RetG w f t2 m2 (mrgC l1 l2)) := by
  have hl1 := chsB_len hok1
  have hl2 := chsB_len hok2
  have bA0 := ((((Box.new w 54 #[.int .i64 f, .int .i64 t, .int .i64 m, .slice A l1.length c]).alloc (.cells #[.int .i64 f2, .int .i64 t2, .int .i64 m2, .slice A2 l2.length c2] 54)).alloc (.cells #[.int .i64 0, .int .i64 0, .int .i64 0, .slice none 0 0] 54)).alloc (.cells #[] 84)).alloc (.cells #[.int .i64 f, .int .i64 t2, .int .i64 m2, .slice (some ⟨w.heap.size + 1 + 1 + 1, 0, none⟩) 0 0] 54)
  have bB0 := (((Box.new (w.alloc (.cells #[.int .i64 f, .int .i64 t, .int .i64 m, .slice A l1.length c] 54)) 54 #[.int .i64 f2, .int .i64 t2, .int .i64 m2, .slice A2 l2.length c2]).alloc (.cells #[.int .i64 0, .int .i64 0, .int .i64 0, .slice none 0 0] 54)).alloc (.cells #[] 84)).alloc (.cells #[.int .i64 f, .int .i64 t2, .int .i64 m2, .slice (some ⟨w.heap.size + 1 + 1 + 1, 0, none⟩) 0 0] 54)
  have bR0 := ((Box.new ((w.alloc (.cells #[.int .i64 f, .int .i64 t, .int .i64 m, .slice A l1.length c] 54)).alloc (.cells #[.int .i64 f2, .int .i64 t2, .int .i64 m2, .slice A2 l2.length c2] 54)) 54 #[.int .i64 0, .int .i64 0, .int .i64 0, .slice none 0 0]).alloc (.cells #[] 84)).alloc (.cells #[.int .i64 f, .int .i64 t2, .int .i64 m2, .slice (some ⟨w.heap.size + 1 + 1 + 1, 0, none⟩) 0 0] 54)
  have hw0 := (RowC.new (((w.alloc (.cells #[.int .i64 f, .int .i64 t, .int .i64 m, .slice A l1.length c] 54)).alloc (.cells #[.int .i64 f2, .int .i64 t2, .int .i64 m2, .slice A2 l2.length c2] 54)).alloc (.cells #[.int .i64 0, .int .i64 0, .int .i64 0, .slice none 0 0] 54)) (Nat.le_refl _)).nx ((Nx.refl _).alloc (.cells #[.int .i64 f, .int .i64 t2, .int .i64 m2, .slice (some ⟨w.heap.size + 1 + 1 + 1, 0, none⟩) 0 0] 54))
  have bE0 := Box.new ((((w.alloc (.cells #[.int .i64 f, .int .i64 t, .int .i64 m, .slice A l1.length c] 54)).alloc (.cells #[.int .i64 f2, .int .i64 t2, .int .i64 m2, .slice A2 l2.length c2] 54)).alloc (.cells #[.int .i64 0, .int .i64 0, .int .i64 0, .slice none 0 0] 54)).alloc (.cells #[] 84)) 54 #[.int .i64 f, .int .i64 t2, .int .i64 m2, .slice (some ⟨w.heap.size + 1 + 1 + 1, 0, none⟩) 0 0]
  have hx0 := (((((Nx.refl w).alloc (.cells #[.int .i64 f, .int .i64 t, .int .i64 m, .slice A l1.length c] 54)).alloc (.cells #[.int .i64 f2, .int .i64 t2, .int .i64 m2, .slice A2 l2.length c2] 54)).alloc (.cells #[.int .i64 0, .int .i64 0, .int .i64 0, .slice none 0 0] 54)).alloc (.cells #[] 84)).alloc (.cells #[.int .i64 f, .int .i64 t2, .int .i64 m2, .slice (some ⟨w.heap.size + 1 + 1 + 1, 0, none⟩) 0 0] 54)
  simp only [World.size_alloc] at bB0 bR0 hw0 bE0
  go_enter Try.func121, Try.ntmps121
  go_wp2_with fail
  generalize ((((w.alloc (.cells #[.int .i64 f, .int .i64 t, .int .i64 m, .slice A l1.length c] 54)).alloc (.cells #[.int .i64 f2, .int .i64 t2, .int .i64 m2, .slice A2 l2.length c2] 54)).alloc (.cells #[.int .i64 0, .int .i64 0, .int .i64 0, .slice none 0 0] 54)).alloc (.cells #[] 84)).alloc (.cells #[.int .i64 f, .int .i64 t2, .int .i64 m2, .slice (some ⟨w.heap.size + 1 + 1 + 1, 0, none⟩) 0 0] 54) = W at *
  obtain ⟨M, HM⟩ : ∃ M, Hid (mgM (noteM noM l1) l2 = M) := ⟨_, rfl⟩
  go_loopw [6] (fun i wr => ∃ k : Nat, k ≤ 8 ∧ i = .int .i64 k ∧ (∃ v, Box wr (w.heap.size + 1 + 1 + 1 + 1) 54 #[.int .i64 f, .int .i64 t2, .int .i64 m2, v] ∧ RowC wr (w.heap.size + 1 + 1 + 1) v (risM M k)) ∧ Box wr w.heap.size 54 #[.int .i64 f, .int .i64 t, .int .i64 m, .slice A l1.length c] ∧ Box wr (w.heap.size + 1) 54 #[.int .i64 f2, .int .i64 t2, .int .i64 m2, .slice A2 l2.length c2] ∧ Box wr (w.heap.size + 1 + 1) 54 #[.int .i64 0, .int .i64 0, .int .i64 0, .slice none 0 0] ∧ Nx w wr) (fun i _ => 8 - (intOf i).toNat)
  case atStart => exact ⟨0, by omega, rfl, ⟨_, bE0, hw0⟩, bA0, bB0, bR0, hx0⟩
  case round =>
    obtain ⟨k, hk, rfl, ⟨v, bE, hrow⟩, bA, bB, bR, hnx⟩ := hrel
    clear bE0 hw0 bA0 bB0 bR0 hx0
    by_cases hk8 : k < 8
    case neg =>
      obtain rfl : k = 8 := by omega
      obtain ⟨A9, c9, rfl, hS9⟩ := hrow.sl
      obtain ⟨e0, e1, e2, e3⟩ := bE.d4
      have HX := Lib.hid hnx
      obtain ⟨r, Hr⟩ : ∃ r, Hid (mrgC l1 l2 = r) := ⟨_, rfl⟩
      have hrr : risM M 8 = r := by rw [← Hr.out, ← HM.out]; rfl
      rw [hrr] at hS9 e3
      clear hrr
      obtain ⟨rc0, rc1, rc2, rc3⟩ := bR.d4
      have rf0 := bR.frozen 0
      have rf1 := bR.frozen 1
      have rf2 := bR.frozen 2
      have rf3 := bR.frozen 3
      have rlt := bR.lt
      go_wp2
      have rq := (put4_box bR (.int .i64 f) (.int .i64 t2) (.int .i64 m2) (.slice A9 r.length c9))
      have hnf := (put4_nx (g := (w.heap.size + 1 + 1)) HX.out (by omega) (.int .i64 f) (.int .i64 t2) (.int .i64 m2) (.slice A9 r.length c9))
      unfold put4 at rq hnf
      have hSf := (((((hS9.low (lo' := w.heap.size + 1 + 1 + 1) (Nat.le_refl _)).far (p := ⟨(w.heap.size + 1 + 1), 0, none⟩) (by simp) (.int .i64 f)).far (p := ⟨(w.heap.size + 1 + 1), 1, none⟩) (by simp) (.int .i64 t2)).far (p := ⟨(w.heap.size + 1 + 1), 2, none⟩) (by simp) (.int .i64 m2)).far (p := ⟨(w.heap.size + 1 + 1), 3, none⟩) (by simp) (.slice A9 r.length c9))
      replace hSf := hSf.low (lo' := w.heap.size) (by omega)
      generalize ((((wr.setCell ⟨(w.heap.size + 1 + 1), 0, none⟩ (.int .i64 f)).setCell ⟨(w.heap.size + 1 + 1), 1, none⟩ (.int .i64 t2)).setCell ⟨(w.heap.size + 1 + 1), 2, none⟩ (.int .i64 m2)).setCell ⟨(w.heap.size + 1 + 1), 3, none⟩ (.slice A9 r.length c9)) = Wf at *
      obtain ⟨rg0, rg1, rg2, rg3⟩ := rq.d4
      exact bodyPost_ret (v := .agg #[.int .i64 f, .int .i64 t2, .int .i64 m2, .slice A9 r.length c9]) (by simp [results, Try.results121, go_sem, rg0, rg1, rg2, rg3]) rfl ⟨A9, c9, by rw [Hr.out], by rw [Hr.out]; exact hSf, hnf⟩
    rename World => wz
    have hkd : decide ((k : Int) < 8) = true := by simp; omega
    go_wp2_with fail
    have hxo := (Nx.refl wz).alloc (.cells #[.int .i64 (-1), .int .i64 0, .int .i64 0] 84)
    have bO := Box.new wz 84 #[.int .i64 (-1), .int .i64 0, .int .i64 0]
    generalize wz.alloc (.cells #[.int .i64 (-1), .int .i64 0, .int .i64 0] 84) = Wo at *
    go_loopw [8] (fun i ws => ∃ (j : Nat) (p0 p1 p2 : Int), j ≤ l1.length ∧ i = .int .i64 j ∧ Hid (enc (noteM noM (l1.take j) (k : Int)) = (p0, p1, p2)) ∧ Box ws wz.heap.size 84 #[.int .i64 p0, .int .i64 p1, .int .i64 p2] ∧ Nx wz ws) (fun i _ => l1.length - (intOf i).toNat)
    case atStart => exact ⟨0, -1, 0, 0, Nat.zero_le _, rfl, Lib.hid rfl, bO, hxo⟩
    case round =>
      obtain ⟨j, p0, p1, p2, hj, rfl, HP, bP, hxs⟩ := hrel
      clear bO hxo
      obtain ⟨_, _, _, a3⟩ := (bA.nx hxs).d4
      by_cases hjl : j < l1.length
      · obtain ⟨b', off, rfl, hb, k0, k1, k2⟩ := (h1.below (hnx.trans hxs) hB).at_ hjl
        obtain ⟨⟨q0, q1, q2⟩, Hq⟩ : ∃ q, Hid (l1.getD j chZ = q) := ⟨_, rfl⟩
        have HN := Lib.hid (enc_note (M := noM) hjl (k : Int) Hq.out)
        rw [Hq.out] at k0 k1 k2
        by_cases hqk : q0 = (k : Int)
        · have hqd : (q0 == (k : Int)) = true := by simp [hqk]
          obtain ⟨o0, o1, o2⟩ := bP.d3
          have g0 := bP.frozen 0
          have g1 := bP.frozen 1
          have g2 := bP.frozen 2
          have HQK := Lib.hid hqk
          clear hqk
          go_wp2
          go_roundw
          case rel => exact ⟨j + 1, q0, q1, q2, by omega, by go_num, Lib.hid (by rw [HN.out, if_pos HQK.out]), ((bP.set 0 (.int .i64 q0)).set 1 (.int .i64 q1)).set 2 (.int .i64 q2), ((hxs.setCell (p := ⟨wz.heap.size, 0, none⟩) (Nat.le_refl _) _).setCell (p := ⟨wz.heap.size, 1, none⟩) (Nat.le_refl _) _).setCell (p := ⟨wz.heap.size, 2, none⟩) (Nat.le_refl _) _⟩
          case measure => simp [intOf]; omega
        · have hqd : (q0 == (k : Int)) = false := by simp [hqk]
          have HQK := Lib.hid hqk
          clear hqk
          go_wp2
          go_roundw
          case rel => exact ⟨j + 1, p0, p1, p2, by omega, by go_num, Lib.hid (by rw [HN.out, if_neg HQK.out, HP.out]), bP, hxs⟩
          case measure => simp [intOf]; omega
      · obtain rfl : j = l1.length := by omega
        rw [List.take_length] at HP
        rename World => ws1
        go_wp2_with fail
        go_loopw [9] (fun i ws => ∃ (j : Nat) (p0 p1 p2 : Int), j ≤ l2.length ∧ i = .int .i64 j ∧ Hid (enc (mgM (noteM noM l1) (l2.take j) (k : Int)) = (p0, p1, p2)) ∧ Box ws wz.heap.size 84 #[.int .i64 p0, .int .i64 p1, .int .i64 p2] ∧ Nx wz ws) (fun i _ => l2.length - (intOf i).toNat)
        case atStart => exact ⟨0, p0, p1, p2, Nat.zero_le _, rfl, HP, bP, hxs⟩
        case round =>
          clear a3 bP hxs HP p0 p1 p2
          obtain ⟨j, p0, p1, p2, hj2, rfl, HP, bP, hxs⟩ := hrel
          obtain ⟨_, _, _, a3⟩ := (bB.nx hxs).d4
          obtain ⟨o0, o1, o2⟩ := bP.d3
          have g0 := bP.frozen 0
          have g1 := bP.frozen 1
          have g2 := bP.frozen 2
          have hz9 : w.heap.size + 1 + 1 + 1 + 1 < wz.heap.size := bE.lt
          have n1 : ¬ w.heap.size + 1 = wz.heap.size := by omega
          by_cases hjl2 : j < l2.length
          · obtain ⟨b', off, rfl, hb, k0, k1, k2⟩ := (h2.below (hnx.trans hxs) hB).at_ hjl2
            have n2 : ¬ b' = wz.heap.size := by omega
            obtain ⟨⟨q0, q1, q2⟩, Hq⟩ : ∃ q, Hid (l2.getD j chZ = q) := ⟨_, rfl⟩
            have HN := Lib.hid (enc_mg (M := noteM noM l1) hjl2 (k : Int) Hq.out)
            rw [Hq.out] at k0 k1 k2
            by_cases hqk : q0 = (k : Int)
            · have hqd : (q0 != (k : Int)) = false := by simp [hqk]
              have HQK := Lib.hid hqk
              clear hqk
              cases hMk : mgM (noteM noM l1) (l2.take j) (k : Int) with
              | none =>
                rw [hMk] at HP HN
                obtain ⟨rfl, rfl, rfl⟩ : p0 = -1 ∧ p1 = 0 ∧ p2 = 0 := by have := HP.out; simp [enc] at this; omega
                clear hMk
                go_wp2
                go_roundw
                case rel => exact ⟨j + 1, q0, q1, q2, by omega, by go_num, Lib.hid (by rw [HN.out, if_pos HQK.out]; rfl), (((bP.set 0 (.int .i64 q0)).set 1 (.int .i64 q1)).set 2 (.int .i64 q2)).set 1 (.int .i64 q1), (((hxs.setCell (p := ⟨wz.heap.size, 0, none⟩) (Nat.le_refl _) _).setCell (p := ⟨wz.heap.size, 1, none⟩) (Nat.le_refl _) _).setCell (p := ⟨wz.heap.size, 2, none⟩) (Nat.le_refl _) _).setCell (p := ⟨wz.heap.size, 1, none⟩) (Nat.le_refl _) _⟩
                case measure => simp [intOf]; omega
              | some p =>
                have hp1 := mgM_key (noteM_key noM_key l1) _ _ _ hMk
                rw [hMk] at HP HN
                obtain rfl : p = (p0, p1, p2) := HP.out
                simp only at hp1
                have hlt0 : decide (p0 < 0) = false := by simp; omega
                have HP1 := Lib.hid hp1
                clear hMk hp1
                go_wp2
                go_roundw
                case rel => exact ⟨j + 1, p0, q1, p2, by omega, by go_num, Lib.hid (by rw [HN.out, if_pos HQK.out, HP1.out, HQK.out]; rfl), bP.set 1 (.int .i64 q1), hxs.setCell (p := ⟨wz.heap.size, 1, none⟩) (Nat.le_refl _) _⟩
                case measure => simp [intOf]; omega
            · have hqd : (q0 != (k : Int)) = true := by simp [hqk]
              have HQK := Lib.hid hqk
              clear hqk
              go_wp2
              go_roundw
              case rel => exact ⟨j + 1, p0, p1, p2, by omega, by go_num, Lib.hid (by rw [HN.out, if_neg HQK.out, HP.out]), bP, hxs⟩
              case measure => simp [intOf]; omega
          · obtain rfl : j = l2.length := by omega
            rw [List.take_length] at HP
            rw [HM.out] at HP
            have HS := Lib.hid (risM_succ M k)
            have hxx := hnx.trans hxs
            cases hMk : M (k : Int) with
            | none =>
              rw [hMk] at HP HS
              obtain ⟨rfl, rfl, rfl⟩ : p0 = -1 ∧ p1 = 0 ∧ p2 = 0 := by have := HP.out; simp [enc] at this; omega
              clear hMk
              go_wp2
              go_roundw
              case rel => exact ⟨k + 1, by omega, by go_num, ⟨v, bE.nx hxs, by rw [HS.out]; simpa using hrow.nx hxs⟩, bA.nx hxs, bB.nx hxs, bR.nx hxs, hxx⟩
              case measure => simp [intOf]; omega
            | some p =>
              have hp1 : p.1 = (k : Int) := by rw [← HM.out] at hMk; exact mgM_key (noteM_key noM_key l1) _ _ _ hMk
              rw [hMk] at HP HS
              obtain rfl : p = (p0, p1, p2) := HP.out
              simp only at hp1
              have hlt0 : decide (0 ≤ p0) = true := by simp; omega
              clear hMk hp1
              have bE1 := bE.nx hxs
              obtain ⟨_, _, _, e3⟩ := bE1.d4
              have hlen := risM_len M k
              have HR := Lib.hid ((hrow.nx hxs).nx ((Nx.refl _).alloc (.cells #[.int .i64 p0, .int .i64 p1, .int .i64 p2] 84)))
              have HB := Lib.hid (Box.new wr 84 #[.int .i64 p0, .int .i64 p1, .int .i64 p2])
              have HX := Lib.hid (hxs.alloc (.cells #[.int .i64 p0, .int .i64 p1, .int .i64 p2] 84))
              have HN := Lib.hid hnx
              go_wp2_with (at_builtin; refine wpList_addC rfl _ _ rfl (w.heap.size + 1 + 1 + 1) wr.heap.size v (risM M k) p0 p1 p2 rfl rfl HR.out HB.out (by omega) (by have := HX.out.size; omega) ?_)
              intro A' k' w2 hrow2 hgr
              have bE2 := hgr.box _ _ _ (by decide) (bE1.alloc (.cells #[.int .i64 p0, .int .i64 p1, .int .i64 p2] 84))
              have bA2 := hgr.box _ _ _ (by decide) ((bA.nx hxs).alloc (.cells #[.int .i64 p0, .int .i64 p1, .int .i64 p2] 84))
              have bB2 := hgr.box _ _ _ (by decide) ((bB.nx hxs).alloc (.cells #[.int .i64 p0, .int .i64 p1, .int .i64 p2] 84))
              have bR2 := hgr.box _ _ _ (by decide) ((bR.nx hxs).alloc (.cells #[.int .i64 p0, .int .i64 p1, .int .i64 p2] 84))
              have hx2 := hgr.nx w (HN.out.trans HX.out) (by omega)
              clear e3
              obtain ⟨_, _, _, e3⟩ := bE2.d4
              have ef3 := bE2.frozen 3
              go_wp2
              go_roundw
              case rel => exact ⟨k + 1, by omega, by go_num, ⟨_, bE2.set 3 (.slice A' ((risM M k).length + 1) k'), by rw [HS.out]; exact hrow2.far bE2 (by decide)⟩, bA2.far (by simp <;> omega) _, bB2.far (by simp <;> omega) _, bR2.far (by simp <;> omega) _, hx2.setCell (p := ⟨w.heap.size + 1 + 1 + 1 + 1, 3, none⟩) (by simp <;> omega) _⟩
              case measure => simp [intOf]; omega
end Go.Proofs.Ytihpadelfpogmaa
/- Contract of MergeSegs, as the model has it. Conditions: the segments can be read, and have at most 1048576 changes. -/
namespace Go.Proofs.Ytihpadelfpogmaa
set_option linter.unusedVariables false
set_option maxRecDepth 100000
open Go.RowKit


set_option maxRecDepth 100000 in
set_option maxHeartbeats 8000000 in
theorem specMergeSegs_c (f t m : Int) (A : Option Addr) (c : Nat) (l1 : List Chg) (f2 t2 m2 : Int) (A2 : Option Addr) (c2 : Nat) (l2 : List Chg) (B : Nat) (w : World) (h1 : Chs w B A l1) (h2 : Chs w B A2 l2) (hB : B ≤ w.heap.size) (hn1 : l1.length ≤ 1048576) (hn2 : l2.length ≤ 1048576) :
    Calls Try.prog 57 #[.agg #[.int .i64 f, .int .i64 t, .int .i64 m, .slice A l1.length c], .agg #[.int .i64 f2, .int .i64 t2, .int .i64 m2, .slice A2 l2.length c2]] w (RetSC w (mgSg f t m l1 f2 t2 m2 l2) (mgCd f t m l1 f2 t2 m2 l2)) := by
  have bA0 := ((Box.new w 54 #[.int .i64 f, .int .i64 t, .int .i64 m, .slice A l1.length c]).alloc (.cells #[.int .i64 f2, .int .i64 t2, .int .i64 m2, .slice A2 l2.length c2] 54)).alloc (.cells #[.int .i64 0, .int .i64 0, .int .i64 0, .slice none 0 0] 54)
  have bB0 := (Box.new (w.alloc (.cells #[.int .i64 f, .int .i64 t, .int .i64 m, .slice A l1.length c] 54)) 54 #[.int .i64 f2, .int .i64 t2, .int .i64 m2, .slice A2 l2.length c2]).alloc (.cells #[.int .i64 0, .int .i64 0, .int .i64 0, .slice none 0 0] 54)
  have bR0 := Box.new ((w.alloc (.cells #[.int .i64 f, .int .i64 t, .int .i64 m, .slice A l1.length c] 54)).alloc (.cells #[.int .i64 f2, .int .i64 t2, .int .i64 m2, .slice A2 l2.length c2] 54)) 54 #[.int .i64 0, .int .i64 0, .int .i64 0, .slice none 0 0]
  have hx0 := (((Nx.refl w).alloc (.cells #[.int .i64 f, .int .i64 t, .int .i64 m, .slice A l1.length c] 54)).alloc (.cells #[.int .i64 f2, .int .i64 t2, .int .i64 m2, .slice A2 l2.length c2] 54)).alloc (.cells #[.int .i64 0, .int .i64 0, .int .i64 0, .slice none 0 0] 54)
  simp only [World.size_alloc] at bB0 bR0
  cases hs1 : segB f t m l1
  · have HS1 := Lib.hid hs1
    have HR := Lib.hid (mg_bad (f := f) (t := t) (m := m) (l1 := l1) (f2 := f2) (t2 := t2) (m2 := m2) (l2 := l2) (by unfold mgB; rw [hs1]; rfl))
    clear hs1
    go_enter Try.func57, Try.ntmps57
    go_wp2_with fail
    generalize ((w.alloc (.cells #[.int .i64 f, .int .i64 t, .int .i64 m, .slice A l1.length c] 54)).alloc (.cells #[.int .i64 f2, .int .i64 t2, .int .i64 m2, .slice A2 l2.length c2] 54)).alloc (.cells #[.int .i64 0, .int .i64 0, .int .i64 0, .slice none 0 0] 54) = W at *
    refine (specSegOK_c f t m A c B l1 _ (h1.below hx0 hB) (Nat.le_trans hB hx0.size) hn1).mono ?_
    rintro e w1 ⟨rfl, hx1⟩
    rw [HS1.out]
    have bR := bR0.nx hx1
    have hX := hx0.trans hx1
    obtain ⟨rc0, rc1, rc2, rc3⟩ := bR.d4
    have rf0 := bR.frozen 0
    have rf1 := bR.frozen 1
    have rf2 := bR.frozen 2
    have rf3 := bR.frozen 3
    have rlt := bR.lt
    go_wp2
    have rq := (put4_box bR (.int .i64 0) (.int .i64 0) (.int .i64 0) (.slice none 0 0))
    have hnf := (put4_nx (g := (w.heap.size + 1 + 1)) hX (by omega) (.int .i64 0) (.int .i64 0) (.int .i64 0) (.slice none 0 0))
    unfold put4 at rq hnf
    generalize ((((w1.setCell ⟨(w.heap.size + 1 + 1), 0, none⟩ (.int .i64 0)).setCell ⟨(w.heap.size + 1 + 1), 1, none⟩ (.int .i64 0)).setCell ⟨(w.heap.size + 1 + 1), 2, none⟩ (.int .i64 0)).setCell ⟨(w.heap.size + 1 + 1), 3, none⟩ (.slice none 0 0)) = Wf at *
    obtain ⟨rg0, rg1, rg2, rg3⟩ := rq.d4
    exact bodyPost_ret (v := .tuple #[.agg #[.int .i64 0, .int .i64 0, .int .i64 0, .slice none 0 0], .int .i64 1]) (by simp [results, Try.results57, go_sem, rg0, rg1, rg2, rg3]) rfl ⟨none, 0, by rw [HR.out.1, HR.out.2]; rfl, by rw [HR.out.2]; exact Sl.none_ _ _ _ _ _, hnf⟩
  have HS1 := Lib.hid hs1
  cases hs2 : segB f2 t2 m2 l2
  · have HS2 := Lib.hid hs2
    have HR := Lib.hid (mg_bad (f := f) (t := t) (m := m) (l1 := l1) (f2 := f2) (t2 := t2) (m2 := m2) (l2 := l2) (by unfold mgB; rw [hs1, hs2]; rfl))
    clear hs1 hs2
    go_enter Try.func57, Try.ntmps57
    go_wp2_with fail
    generalize ((w.alloc (.cells #[.int .i64 f, .int .i64 t, .int .i64 m, .slice A l1.length c] 54)).alloc (.cells #[.int .i64 f2, .int .i64 t2, .int .i64 m2, .slice A2 l2.length c2] 54)).alloc (.cells #[.int .i64 0, .int .i64 0, .int .i64 0, .slice none 0 0] 54) = W at *
    refine (specSegOK_c f t m A c B l1 _ (h1.below hx0 hB) (Nat.le_trans hB hx0.size) hn1).mono ?_
    rintro e w0 ⟨rfl, hx1⟩
    rw [HS1.out]
    have hX0 := hx0.trans hx1
    obtain ⟨k0, k1, k2, k3⟩ := (bB0.nx hx1).d4
    go_wp2_with fail
    refine (specSegOK_c f2 t2 m2 A2 c2 B l2 _ (h2.below hX0 hB) (Nat.le_trans hB hX0.size) hn2).mono ?_
    rintro e w1 ⟨rfl, hx2⟩
    rw [HS2.out]
    have bR := (bR0.nx hx1).nx hx2
    have hX := hX0.trans hx2
    clear k0 k1 k2 k3
    obtain ⟨rc0, rc1, rc2, rc3⟩ := bR.d4
    have rf0 := bR.frozen 0
    have rf1 := bR.frozen 1
    have rf2 := bR.frozen 2
    have rf3 := bR.frozen 3
    have rlt := bR.lt
    go_wp2
    have rq := (put4_box bR (.int .i64 0) (.int .i64 0) (.int .i64 0) (.slice none 0 0))
    have hnf := (put4_nx (g := (w.heap.size + 1 + 1)) hX (by omega) (.int .i64 0) (.int .i64 0) (.int .i64 0) (.slice none 0 0))
    unfold put4 at rq hnf
    generalize ((((w1.setCell ⟨(w.heap.size + 1 + 1), 0, none⟩ (.int .i64 0)).setCell ⟨(w.heap.size + 1 + 1), 1, none⟩ (.int .i64 0)).setCell ⟨(w.heap.size + 1 + 1), 2, none⟩ (.int .i64 0)).setCell ⟨(w.heap.size + 1 + 1), 3, none⟩ (.slice none 0 0)) = Wf at *
    obtain ⟨rg0, rg1, rg2, rg3⟩ := rq.d4
    exact bodyPost_ret (v := .tuple #[.agg #[.int .i64 0, .int .i64 0, .int .i64 0, .slice none 0 0], .int .i64 1]) (by simp [results, Try.results57, go_sem, rg0, rg1, rg2, rg3]) rfl ⟨none, 0, by rw [HR.out.1, HR.out.2]; rfl, by rw [HR.out.2]; exact Sl.none_ _ _ _ _ _, hnf⟩
  have HS2 := Lib.hid hs2
  have hmg : mgB f t m l1 f2 t2 m2 l2 = true := by unfold mgB; rw [hs1, hs2]; rfl
  clear hs1 hs2
  go_enter Try.func57, Try.ntmps57
  go_wp2_with fail
  generalize ((w.alloc (.cells #[.int .i64 f, .int .i64 t, .int .i64 m, .slice A l1.length c] 54)).alloc (.cells #[.int .i64 f2, .int .i64 t2, .int .i64 m2, .slice A2 l2.length c2] 54)).alloc (.cells #[.int .i64 0, .int .i64 0, .int .i64 0, .slice none 0 0] 54) = W at *
  refine (specSegOK_c f t m A c B l1 _ (h1.below hx0 hB) (Nat.le_trans hB hx0.size) hn1).mono ?_
  rintro e w0 ⟨rfl, hx1⟩
  rw [HS1.out]
  have hX0 := hx0.trans hx1
  obtain ⟨k0, k1, k2, k3⟩ := (bB0.nx hx1).d4
  go_wp2_with fail
  refine (specSegOK_c f2 t2 m2 A2 c2 B l2 _ (h2.below hX0 hB) (Nat.le_trans hB hX0.size) hn2).mono ?_
  rintro e w1 ⟨rfl, hx2⟩
  rw [HS2.out]
  have bA := (bA0.nx hx1).nx hx2
  have bB := (bB0.nx hx1).nx hx2
  have bR := (bR0.nx hx1).nx hx2
  have hX := hX0.trans hx2
  clear k0 k1 k2 k3 bA0 bB0 bR0 hx0 hx1 hx2 hX0
  obtain ⟨k0, k1, k2, k3⟩ := bA.d4
  obtain ⟨m0, m1, m2', m3⟩ := bB.d4
  by_cases hg : t = f2
  case neg =>
    have HR := Lib.hid (mg_gap hmg hg)
    have hd : (t != f2) = true := by simp [hg]
    clear hmg
    obtain ⟨rc0, rc1, rc2, rc3⟩ := bR.d4
    have rf0 := bR.frozen 0
    have rf1 := bR.frozen 1
    have rf2 := bR.frozen 2
    have rf3 := bR.frozen 3
    have rlt := bR.lt
    go_wp2
    have rq := (put4_box bR (.int .i64 0) (.int .i64 0) (.int .i64 0) (.slice none 0 0))
    have hnf := (put4_nx (g := (w.heap.size + 1 + 1)) hX (by omega) (.int .i64 0) (.int .i64 0) (.int .i64 0) (.slice none 0 0))
    unfold put4 at rq hnf
    generalize ((((w1.setCell ⟨(w.heap.size + 1 + 1), 0, none⟩ (.int .i64 0)).setCell ⟨(w.heap.size + 1 + 1), 1, none⟩ (.int .i64 0)).setCell ⟨(w.heap.size + 1 + 1), 2, none⟩ (.int .i64 0)).setCell ⟨(w.heap.size + 1 + 1), 3, none⟩ (.slice none 0 0)) = Wf at *
    obtain ⟨rg0, rg1, rg2, rg3⟩ := rq.d4
    exact bodyPost_ret (v := .tuple #[.agg #[.int .i64 0, .int .i64 0, .int .i64 0, .slice none 0 0], .int .i64 17]) (by simp [results, Try.results57, go_sem, rg0, rg1, rg2, rg3]) rfl ⟨none, 0, by rw [HR.out.1, HR.out.2]; rfl, by rw [HR.out.2]; exact Sl.none_ _ _ _ _ _, hnf⟩
  have HR := Lib.hid (mg_yes hmg hg)
  have hd : (t != f2) = false := by simp [hg]
  obtain ⟨r, Hr⟩ : ∃ r, Hid (mrgC l1 l2 = r) := ⟨_, rfl⟩
  rw [Hr.out] at HR
  have HG := Lib.hid hg
  clear hmg hg
  go_wp2_with fail
  refine (l03Merge_c f t m A c l1 f2 t2 m2 A2 c2 l2 B _ (h1.below hX hB) (h2.below hX hB) (Nat.le_trans hB hX.size) (segB_chs HS1.out) (segB_chs HS2.out)).mono ?_
  intro e w3 hR9
  unfold RetG at hR9
  rw [Hr.out] at hR9
  obtain ⟨A9, c9, rfl, hS9, hx9⟩ := hR9
  have zl : w.heap.size + 1 + 1 < w1.heap.size := bR.lt
  have bR9 := bR.nx hx9
  have hX9 := hX.trans hx9
  clear k0 k1 k2 k3 m0 m1 m2' m3
  obtain ⟨rc0, rc1, rc2, rc3⟩ := bR9.d4
  have rf0 := bR9.frozen 0
  have rf1 := bR9.frozen 1
  have rf2 := bR9.frozen 2
  have rf3 := bR9.frozen 3
  have rlt := bR9.lt
  go_wp2
  have rq := (put4_box bR9 (.int .i64 f) (.int .i64 t2) (.int .i64 m2) (.slice A9 r.length c9))
  have hnf := (put4_nx (g := (w.heap.size + 1 + 1)) hX9 (by omega) (.int .i64 f) (.int .i64 t2) (.int .i64 m2) (.slice A9 r.length c9))
  unfold put4 at rq hnf
  have hSf := (((((hS9.low (lo' := w.heap.size + 1 + 1 + 1) (by omega)).far (p := ⟨(w.heap.size + 1 + 1), 0, none⟩) (by simp) (.int .i64 f)).far (p := ⟨(w.heap.size + 1 + 1), 1, none⟩) (by simp) (.int .i64 t2)).far (p := ⟨(w.heap.size + 1 + 1), 2, none⟩) (by simp) (.int .i64 m2)).far (p := ⟨(w.heap.size + 1 + 1), 3, none⟩) (by simp) (.slice A9 r.length c9))
  replace hSf := hSf.low (lo' := w.heap.size) (by omega)
  generalize ((((w3.setCell ⟨(w.heap.size + 1 + 1), 0, none⟩ (.int .i64 f)).setCell ⟨(w.heap.size + 1 + 1), 1, none⟩ (.int .i64 t2)).setCell ⟨(w.heap.size + 1 + 1), 2, none⟩ (.int .i64 m2)).setCell ⟨(w.heap.size + 1 + 1), 3, none⟩ (.slice A9 r.length c9)) = Wf at *
  obtain ⟨rg0, rg1, rg2, rg3⟩ := rq.d4
  exact bodyPost_ret (v := .tuple #[.agg #[.int .i64 f, .int .i64 t2, .int .i64 m2, .slice A9 r.length c9], .int .i64 0]) (by simp [results, Try.results57, go_sem, rg0, rg1, rg2, rg3]) rfl ⟨A9, c9, by rw [HR.out.1, HR.out.2], by rw [HR.out.2]; exact hSf, hnf⟩
end Go.Proofs.Ytihpadelfpogmaa
/- Contracts of the model's l03Of and SegOf. Conditions: the list can be read, and holds at most 1048576 elements. -/
namespace Go.Proofs.Ytihpadelfpogmaa
set_option linter.unusedVariables false
set_option maxRecDepth 100000
open Go.RowKit


set_option maxRecDepth 100000 in
set_option maxHeartbeats 4000000 in
theorem l03Of_c (A2 : Option Addr) (c2 B n0 : Nat) (xs : List Int) (p v t : Int) (w : World) (h : Ins w B A2 xs) (hB : B ≤ w.heap.size) (hn0 : n0 < xs.length) (hn8 : xs.length ≤ 1048576) (hp1 : 1 ≤ p) (hp2 : p ≤ 9000000) :
    Calls Try.prog 90 #[.slice A2 xs.length c2, .agg #[.int .i64 p, .int .i64 (n0 : Int), .int .i64 v, .int .i64 t]] w (RetG w (p - 1) p t [((n0 : Int), v, xs.getD n0 0)]) := by
  have bF0 := (Box.new w 58 #[.int .i64 p, .int .i64 (n0 : Int), .int .i64 v, .int .i64 t]).alloc (.cells #[.int .i64 0, .int .i64 0, .int .i64 0, .slice none 0 0] 54)
  have bR0 := Box.new (w.alloc (.cells #[.int .i64 p, .int .i64 (n0 : Int), .int .i64 v, .int .i64 t] 58)) 54 #[.int .i64 0, .int .i64 0, .int .i64 0, .slice none 0 0]
  have hx0 := ((Nx.refl w).alloc (.cells #[.int .i64 p, .int .i64 (n0 : Int), .int .i64 v, .int .i64 t] 58)).alloc (.cells #[.int .i64 0, .int .i64 0, .int .i64 0, .slice none 0 0] 54)
  simp only [World.size_alloc] at bR0
  have hn1 : (n0 : Int) < (xs.length : Int) := by omega
  have hwp : IntKind.i64.wrap (p - 1) = p - 1 := IntWalk.i64_in _ (by omega)
  obtain ⟨o, Ho⟩ : ∃ o, Hid (xs.getD n0 0 = o) := ⟨_, rfl⟩
  go_enter Try.func90, Try.ntmps90
  go_wp2_with fail
  generalize (w.alloc (.cells #[.int .i64 p, .int .i64 (n0 : Int), .int .i64 v, .int .i64 t] 58)).alloc (.cells #[.int .i64 0, .int .i64 0, .int .i64 0, .slice none 0 0] 54) = W at *
  have bF : Box W.drew w.heap.size 58 #[.int .i64 p, .int .i64 (n0 : Int), .int .i64 v, .int .i64 t] := bF0
  have bR : Box W.drew (w.heap.size + 1) 54 #[.int .i64 0, .int .i64 0, .int .i64 0, .slice none 0 0] := bR0
  obtain ⟨g, off, rfl, hgB, hcell0⟩ := (h.below hx0 hB).at_ hn0
  rw [Ho.out] at hcell0
  have hcell : W.drew.cell? ⟨g, off + n0, none⟩ = some (.int .i64 o) := hcell0
  have hgw : g < W.drew.heap.size := by have := hx0.size; show g < W.heap.size; omega
  have hX2 := hx0.drew
  clear bF0 hcell0
  obtain ⟨rc0, rc1, rc2, rc3⟩ := bR0.d4
  have rf0 := bR0.frozen 0
  have rf1 := bR0.frozen 1
  have rf2 := bR0.frozen 2
  have rf3 := bR0.frozen 3
  have rlt := bR0.lt
  refine wp_region_lex [false, false, false, false, false, false, false, false, false, false, false, false, false, false, false, false, false, true, false, true] (fun w' => (w'.cell? ⟨w.heap.size, 0, none⟩ = some (.int .i64 p) ∧ w'.cell? ⟨w.heap.size, 1, none⟩ = some (.int .i64 (n0 : Int)) ∧ w'.cell? ⟨w.heap.size, 2, none⟩ = some (.int .i64 v) ∧ w'.cell? ⟨w.heap.size, 3, none⟩ = some (.int .i64 t)) ∧ w'.cell? ⟨g, off + n0, none⟩ = some (.int .i64 o)) (by kernel_rfl) (by kernel_rfl) rfl (by kernel_rfl) (fun _ _ d _ _ h => by cases d <;> exact h) (by exact ⟨bF.d4, hcell⟩) ?_
  repeat (first | (refine HL.take (v := ?_) (by rfl) ?_ ?_; rotate_left; (· (intro w hSw; (try dsimp only at hSw); go_simp; try with_reducible rfl)); (try simp only [Act.put, List.setIfInBounds_toArray, List.set_cons_zero, List.set_cons_succ])) | (refine HL.skip (by rfl) ?_; (try simp only [Act.put, List.setIfInBounds_toArray, List.set_cons_zero, List.set_cons_succ])))
  refine HL.call (by rfl) (fun K hK => ?_)
  go_simp
  refine hK.out _ _ (by exact ⟨(bF.alloc (.cells #[.int .i64 (n0 : Int), .int .i64 v, .int .i64 o] 84)).d4, (((((Nx.refl W.drew).alloc (.cells #[.int .i64 (n0 : Int), .int .i64 v, .int .i64 o] 84)))).cell (p := ⟨g, off + n0, none⟩) hgw).trans hcell⟩) ?_
  clear hK K
  try simp only [Act.put, List.setIfInBounds_toArray, List.set_cons_zero, List.set_cons_succ]
  repeat (first | (refine HL.take (v := ?_) (by rfl) ?_ ?_; rotate_left; (· (intro w hSw; (try dsimp only at hSw); go_simp; try with_reducible rfl)); (try simp only [Act.put, List.setIfInBounds_toArray, List.set_cons_zero, List.set_cons_succ])) | (refine HL.skip (by rfl) ?_; (try simp only [Act.put, List.setIfInBounds_toArray, List.set_cons_zero, List.set_cons_succ])))
  refine HL.call (by rfl) (fun K hK => ?_)
  go_simp
  refine hK.out _ _ (by exact ⟨(((((bF.far (p := ⟨(w.heap.size + 1), 0, none⟩) (by simp) (.int .i64 (p - 1))).far (p := ⟨(w.heap.size + 1), 1, none⟩) (by simp) (.int .i64 p)).far (p := ⟨(w.heap.size + 1), 2, none⟩) (by simp) (.int .i64 t)).far (p := ⟨(w.heap.size + 1), 3, none⟩) (by simp) (.slice (some ⟨W.heap.size, 0, none⟩) 1 1)).alloc (.cells #[.int .i64 (n0 : Int), .int .i64 v, .int .i64 o] 84)).d4, (((Nx.refl ((((W.drew.setCell ⟨(w.heap.size + 1), 0, none⟩ (.int .i64 (p - 1))).setCell ⟨(w.heap.size + 1), 1, none⟩ (.int .i64 p)).setCell ⟨(w.heap.size + 1), 2, none⟩ (.int .i64 t)).setCell ⟨(w.heap.size + 1), 3, none⟩ (.slice (some ⟨W.heap.size, 0, none⟩) 1 1))).alloc (.cells #[.int .i64 (n0 : Int), .int .i64 v, .int .i64 o] 84)).cell (p := ⟨g, off + n0, none⟩) (by simp [World.setCell]; exact hgw)).trans ((cell_far (((W.drew.setCell ⟨(w.heap.size + 1), 0, none⟩ (.int .i64 (p - 1))).setCell ⟨(w.heap.size + 1), 1, none⟩ (.int .i64 p)).setCell ⟨(w.heap.size + 1), 2, none⟩ (.int .i64 t)) ⟨(w.heap.size + 1), 3, none⟩ ⟨g, off + n0, none⟩ (.slice (some ⟨W.heap.size, 0, none⟩) 1 1) (by simp; omega)).trans ((cell_far ((W.drew.setCell ⟨(w.heap.size + 1), 0, none⟩ (.int .i64 (p - 1))).setCell ⟨(w.heap.size + 1), 1, none⟩ (.int .i64 p)) ⟨(w.heap.size + 1), 2, none⟩ ⟨g, off + n0, none⟩ (.int .i64 t) (by simp; omega)).trans ((cell_far (W.drew.setCell ⟨(w.heap.size + 1), 0, none⟩ (.int .i64 (p - 1))) ⟨(w.heap.size + 1), 1, none⟩ ⟨g, off + n0, none⟩ (.int .i64 p) (by simp; omega)).trans ((cell_far W.drew ⟨(w.heap.size + 1), 0, none⟩ ⟨g, off + n0, none⟩ (.int .i64 (p - 1)) (by simp; omega)).trans hcell))))⟩) ?_
  clear hK K
  try simp only [Act.put, List.setIfInBounds_toArray, List.set_cons_zero, List.set_cons_succ]
  refine HL.done ?_
  go_wp2_with fail
  have rq := (put4_box bR0 (.int .i64 (p - 1)) (.int .i64 p) (.int .i64 t) (.slice (some ⟨W.heap.size, 0, none⟩) 1 1)).alloc (.cells #[.int .i64 (n0 : Int), .int .i64 v, .int .i64 o] 84)
  have hnf := (put4_nx (g := (w.heap.size + 1)) hx0 (by omega) (.int .i64 (p - 1)) (.int .i64 p) (.int .i64 t) (.slice (some ⟨W.heap.size, 0, none⟩) 1 1)).alloc (.cells #[.int .i64 (n0 : Int), .int .i64 v, .int .i64 o] 84)
  unfold put4 at rq hnf
  have hsz3 : ((((W.setCell ⟨(w.heap.size + 1), 0, none⟩ (.int .i64 (p - 1))).setCell ⟨(w.heap.size + 1), 1, none⟩ (.int .i64 p)).setCell ⟨(w.heap.size + 1), 2, none⟩ (.int .i64 t)).setCell ⟨(w.heap.size + 1), 3, none⟩ (.slice (some ⟨W.heap.size, 0, none⟩) 1 1)).heap.size = W.heap.size := by simp [World.setCell]
  have bC3 := Box.new ((((W.setCell ⟨(w.heap.size + 1), 0, none⟩ (.int .i64 (p - 1))).setCell ⟨(w.heap.size + 1), 1, none⟩ (.int .i64 p)).setCell ⟨(w.heap.size + 1), 2, none⟩ (.int .i64 t)).setCell ⟨(w.heap.size + 1), 3, none⟩ (.slice (some ⟨W.heap.size, 0, none⟩) 1 1)) 84 #[.int .i64 (n0 : Int), .int .i64 v, .int .i64 o]
  rw [hsz3] at bC3
  have hlw := hx0.size
  have hSf : Sl _ w.heap.size (some ⟨W.heap.size, 0, none⟩) 84 (1 * 3) (chAt [((n0 : Int), v, xs.getD n0 0)]) := Sl.own (by rw [Ho.out]; exact one_own bC3) (by omega)
  clear hsz3
  generalize (((((W.setCell ⟨(w.heap.size + 1), 0, none⟩ (.int .i64 (p - 1))).setCell ⟨(w.heap.size + 1), 1, none⟩ (.int .i64 p)).setCell ⟨(w.heap.size + 1), 2, none⟩ (.int .i64 t)).setCell ⟨(w.heap.size + 1), 3, none⟩ (.slice (some ⟨W.heap.size, 0, none⟩) 1 1)).alloc (.cells #[.int .i64 (n0 : Int), .int .i64 v, .int .i64 o] 84)) = Wf at *
  obtain ⟨rg0, rg1, rg2, rg3⟩ := rq.d4
  exact bodyPost_ret (v := .agg #[.int .i64 (p - 1), .int .i64 p, .int .i64 t, .slice (some ⟨W.heap.size, 0, none⟩) 1 1]) (by simp [results, Try.results90, go_sem, rg0, rg1, rg2, rg3]) rfl ⟨_, 1, rfl, hSf, hnf.drew⟩

set_option maxRecDepth 100000 in
set_option maxHeartbeats 4000000 in
theorem specSegOf_c (A2 : Option Addr) (c2 B : Nat) (xs : List Int) (p b v t : Int) (w : World) (h : Ins w B A2 xs) (hB : B ≤ w.heap.size) (hn : xs.length ≤ 1048576) :
    Calls Try.prog 31 #[.slice A2 xs.length c2, .agg #[.int .i64 p, .int .i64 b, .int .i64 v, .int .i64 t]] w (RetSC w (sgOf xs p b v t) (askC xs (frameB p b v t))) := by
  have bF0 := (Box.new w 58 #[.int .i64 p, .int .i64 b, .int .i64 v, .int .i64 t]).alloc (.cells #[.int .i64 0, .int .i64 0, .int .i64 0, .slice none 0 0] 54)
  have bR0 := Box.new (w.alloc (.cells #[.int .i64 p, .int .i64 b, .int .i64 v, .int .i64 t] 58)) 54 #[.int .i64 0, .int .i64 0, .int .i64 0, .slice none 0 0]
  have hx0 := ((Nx.refl w).alloc (.cells #[.int .i64 p, .int .i64 b, .int .i64 v, .int .i64 t] 58)).alloc (.cells #[.int .i64 0, .int .i64 0, .int .i64 0, .slice none 0 0] 54)
  simp only [World.size_alloc] at bR0
  by_cases hl : 4096 < xs.length
  · have hd : decide (4096 < (xs.length : Int)) = true := by simp; omega
    have HR := Lib.hid (show askC xs (frameB p b v t) = 2 ∧ sgOf xs p b v t = zSg by
      unfold sgOf; rw [(askC_long hl true).2]; exact ⟨(askC_long hl _).1, rfl⟩)
    go_enter Try.func31, Try.ntmps31
    go_wp2
    exact bodyPost_ret (v := .tuple #[.agg #[.int .i64 0, .int .i64 0, .int .i64 0, .slice none 0 0], .int .i64 2]) (by simp [results, Try.results31, go_sem]) rfl ⟨none, 0, by rw [HR.out.1, HR.out.2]; rfl, by rw [HR.out.2]; exact Sl.none_ _ _ _ _ _, hx0⟩
  have hd : decide (4096 < (xs.length : Int)) = false := by simp; omega
  cases hc : contB xs
  · have HC := Lib.hid hc
    clear hc
    have HR := Lib.hid (show askC xs (frameB p b v t) = 1 ∧ sgOf xs p b v t = zSg by
      unfold askC sgOf; rw [if_neg hl, HC.out]; exact ⟨rfl, rfl⟩)
    go_enter Try.func31, Try.ntmps31
    go_wp2_with fail
    generalize (w.alloc (.cells #[.int .i64 p, .int .i64 b, .int .i64 v, .int .i64 t] 58)).alloc (.cells #[.int .i64 0, .int .i64 0, .int .i64 0, .slice none 0 0] 54) = W at *
    refine (specContentOK_c A2 c2 B xs _ (h.below hx0 hB) (Nat.le_trans hB hx0.size) hn).mono ?_
    rintro e w1 ⟨rfl, hx1⟩
    rw [HC.out]
    have bR := bR0.nx hx1
    have hX := hx0.trans hx1
    obtain ⟨rc0, rc1, rc2, rc3⟩ := bR.d4
    have rf0 := bR.frozen 0
    have rf1 := bR.frozen 1
    have rf2 := bR.frozen 2
    have rf3 := bR.frozen 3
    have rlt := bR.lt
    go_wp2
    have rq := (put4_box bR (.int .i64 0) (.int .i64 0) (.int .i64 0) (.slice none 0 0))
    have hnf := (put4_nx (g := (w.heap.size + 1)) hX (by omega) (.int .i64 0) (.int .i64 0) (.int .i64 0) (.slice none 0 0))
    unfold put4 at rq hnf
    generalize ((((w1.setCell ⟨(w.heap.size + 1), 0, none⟩ (.int .i64 0)).setCell ⟨(w.heap.size + 1), 1, none⟩ (.int .i64 0)).setCell ⟨(w.heap.size + 1), 2, none⟩ (.int .i64 0)).setCell ⟨(w.heap.size + 1), 3, none⟩ (.slice none 0 0)) = Wf at *
    obtain ⟨rg0, rg1, rg2, rg3⟩ := rq.d4
    exact bodyPost_ret (v := .tuple #[.agg #[.int .i64 0, .int .i64 0, .int .i64 0, .slice none 0 0], .int .i64 1]) (by simp [results, Try.results31, go_sem, rg0, rg1, rg2, rg3]) rfl ⟨none, 0, by rw [HR.out.1, HR.out.2]; rfl, by rw [HR.out.2]; exact Sl.none_ _ _ _ _ _, hnf⟩
  have HC := Lib.hid hc
  clear hc
  cases hfb : frameB p b v t
  · have HFB := Lib.hid hfb
    clear hfb
    have HR := Lib.hid (show askC xs (frameB p b v t) = 1 ∧ sgOf xs p b v t = zSg by
      rw [HFB.out]; unfold askC sgOf; rw [if_neg hl, HC.out, HFB.out]; exact ⟨rfl, rfl⟩)
    rw [HFB.out] at HR
    go_enter Try.func31, Try.ntmps31
    go_wp2_with fail
    generalize (w.alloc (.cells #[.int .i64 p, .int .i64 b, .int .i64 v, .int .i64 t] 58)).alloc (.cells #[.int .i64 0, .int .i64 0, .int .i64 0, .slice none 0 0] 54) = W at *
    refine (specContentOK_c A2 c2 B xs _ (h.below hx0 hB) (Nat.le_trans hB hx0.size) hn).mono ?_
    rintro e w1 ⟨rfl, hx1⟩
    rw [HC.out]
    obtain ⟨k0, k1, k2, k3⟩ := (bF0.nx hx1).d4
    go_wp2_with fail
    refine (specFrameOK_c p b v t _).mono ?_
    rintro e w2 ⟨rfl, hx2⟩
    rw [HFB.out]
    have bR := (bR0.nx hx1).nx hx2
    have hX := (hx0.trans hx1).trans hx2
    clear k0 k1 k2 k3
    obtain ⟨rc0, rc1, rc2, rc3⟩ := bR.d4
    have rf0 := bR.frozen 0
    have rf1 := bR.frozen 1
    have rf2 := bR.frozen 2
    have rf3 := bR.frozen 3
    have rlt := bR.lt
    go_wp2
    have rq := (put4_box bR (.int .i64 0) (.int .i64 0) (.int .i64 0) (.slice none 0 0))
    have hnf := (put4_nx (g := (w.heap.size + 1)) hX (by omega) (.int .i64 0) (.int .i64 0) (.int .i64 0) (.slice none 0 0))
    unfold put4 at rq hnf
    generalize ((((w2.setCell ⟨(w.heap.size + 1), 0, none⟩ (.int .i64 0)).setCell ⟨(w.heap.size + 1), 1, none⟩ (.int .i64 0)).setCell ⟨(w.heap.size + 1), 2, none⟩ (.int .i64 0)).setCell ⟨(w.heap.size + 1), 3, none⟩ (.slice none 0 0)) = Wf at *
    obtain ⟨rg0, rg1, rg2, rg3⟩ := rq.d4
    exact bodyPost_ret (v := .tuple #[.agg #[.int .i64 0, .int .i64 0, .int .i64 0, .slice none 0 0], .int .i64 1]) (by simp [results, Try.results31, go_sem, rg0, rg1, rg2, rg3]) rfl ⟨none, 0, by rw [HR.out.1, HR.out.2]; rfl, by rw [HR.out.2]; exact Sl.none_ _ _ _ _ _, hnf⟩
  have HFB := Lib.hid hfb
  obtain ⟨hb0, hb7, hp1, hp2, _, _, _, _⟩ := frameB_block hfb
  clear hfb
  obtain ⟨n0, rfl⟩ : ∃ n : Nat, b = n := ⟨b.toNat, by omega⟩
  have HR := Lib.hid (show askC xs (frameB p n0 v t) = 0 ∧ sgOf xs p n0 v t = ofW xs p n0 v t by
    rw [HFB.out]; unfold askC sgOf; rw [if_neg hl, HC.out, HFB.out]; exact ⟨rfl, rfl⟩)
  rw [HFB.out] at HR
  have hn0 : n0 < xs.length := by have := (contB_yes HC.out).1; omega
  obtain ⟨o, Ho⟩ : ∃ o, Hid (xs.getD n0 0 = o) := ⟨_, rfl⟩
  go_enter Try.func31, Try.ntmps31
  go_wp2_with fail
  generalize (w.alloc (.cells #[.int .i64 p, .int .i64 (n0 : Int), .int .i64 v, .int .i64 t] 58)).alloc (.cells #[.int .i64 0, .int .i64 0, .int .i64 0, .slice none 0 0] 54) = W at *
  refine (specContentOK_c A2 c2 B xs _ (h.below hx0 hB) (Nat.le_trans hB hx0.size) hn).mono ?_
  rintro e w0 ⟨rfl, hx1⟩
  rw [HC.out]
  obtain ⟨k0, k1, k2, k3⟩ := (bF0.nx hx1).d4
  go_wp2_with fail
  refine (specFrameOK_c p n0 v t _).mono ?_
  rintro e w1 ⟨rfl, hx2⟩
  rw [HFB.out]
  have hX1 := (hx0.trans hx1).trans hx2
  clear k0 k1 k2 k3
  obtain ⟨k0, k1, k2, k3⟩ := ((bF0.nx hx1).nx hx2).d4
  go_wp2_with fail
  refine (l03Of_c A2 c2 B n0 xs p v t _ (h.below hX1 hB) (Nat.le_trans hB hX1.size) hn0 hn hp1 (by omega)).mono ?_
  rintro e w2 ⟨A9, c9, rfl, hS9, hx3⟩
  rw [Ho.out] at hS9
  have bR := ((bR0.nx hx1).nx hx2).nx hx3
  have hX := hX1.trans hx3
  have hlR : w.heap.size + 1 < w1.heap.size := ((bR0.nx hx1).nx hx2).lt
  clear k0 k1 k2 k3
  obtain ⟨rc0, rc1, rc2, rc3⟩ := bR.d4
  have rf0 := bR.frozen 0
  have rf1 := bR.frozen 1
  have rf2 := bR.frozen 2
  have rf3 := bR.frozen 3
  have rlt := bR.lt
  go_wp2
  have rq := (put4_box bR (.int .i64 (p - 1)) (.int .i64 p) (.int .i64 t) (.slice A9 1 c9))
  have hnf := (put4_nx (g := (w.heap.size + 1)) hX (by omega) (.int .i64 (p - 1)) (.int .i64 p) (.int .i64 t) (.slice A9 1 c9))
  unfold put4 at rq hnf
  have hSf := (((((hS9.low (lo' := w.heap.size + 2) (by omega)).far (p := ⟨(w.heap.size + 1), 0, none⟩) (by simp) (.int .i64 (p - 1))).far (p := ⟨(w.heap.size + 1), 1, none⟩) (by simp) (.int .i64 p)).far (p := ⟨(w.heap.size + 1), 2, none⟩) (by simp) (.int .i64 t)).far (p := ⟨(w.heap.size + 1), 3, none⟩) (by simp) (.slice A9 1 c9))
  replace hSf := hSf.low (lo' := w.heap.size) (by omega)
  generalize ((((w2.setCell ⟨(w.heap.size + 1), 0, none⟩ (.int .i64 (p - 1))).setCell ⟨(w.heap.size + 1), 1, none⟩ (.int .i64 p)).setCell ⟨(w.heap.size + 1), 2, none⟩ (.int .i64 t)).setCell ⟨(w.heap.size + 1), 3, none⟩ (.slice A9 1 c9)) = Wf at *
  obtain ⟨rg0, rg1, rg2, rg3⟩ := rq.d4
  exact bodyPost_ret (v := .tuple #[.agg #[.int .i64 (p - 1), .int .i64 p, .int .i64 t, .slice A9 1 c9], .int .i64 0]) (by simp [results, Try.results31, go_sem, rg0, rg1, rg2, rg3]) rfl ⟨A9, c9, by rw [HR.out.1, HR.out.2]; unfold ofW; rfl, by rw [HR.out.2]; unfold ofW; rw [Int.toNat_natCast, Ho.out]; exact hSf, hnf⟩
end Go.Proofs.Ytihpadelfpogmaa
/- Contracts of SegOf, as the program has it. Conditions: the list can be read, and holds at most 1048576 elements. -/
namespace Go.Proofs.Ytihpadelfpogmaa
set_option linter.unusedVariables false
set_option maxRecDepth 100000
open Go.RowKit


set_option maxRecDepth 100000 in
set_option maxHeartbeats 4000000 in
theorem valuesSegOf_c (xs : List Int) (p v t : Int) (n0 : Nat) (w : World) (h8 : xs.length = 8) (hn0 : n0 < 8) (hp1 : 1 ≤ p) (hp2 : p ≤ 9000000) :
    Calls Try.prog 94 #[vA xs, .agg #[.int .i64 p, .int .i64 (n0 : Int), .int .i64 v, .int .i64 t]] w (RetG w (p - 1) p t [((n0 : Int), v, xs.getD n0 0)]) := by
  unfold vA
  have hwp : IntKind.i64.wrap (p - 1) = p - 1 := IntWalk.i64_in _ (by omega)
  have bA0 : Box (((w.alloc (.cells #[inAt xs 0, inAt xs 1, inAt xs 2, inAt xs 3, inAt xs 4, inAt xs 5, inAt xs 6, inAt xs 7] 99)).alloc (.cells #[.int .i64 p, .int .i64 (n0 : Int), .int .i64 v, .int .i64 t] 58)).alloc (.cells #[.int .i64 0, .int .i64 0, .int .i64 0, .slice none 0 0] 54)) w.heap.size 99 #[inAt xs 0, inAt xs 1, inAt xs 2, inAt xs 3, inAt xs 4, inAt xs 5, inAt xs 6, inAt xs 7] := ((Box.new w _ _).alloc _).alloc _
  have bF0 : Box (((w.alloc (.cells #[inAt xs 0, inAt xs 1, inAt xs 2, inAt xs 3, inAt xs 4, inAt xs 5, inAt xs 6, inAt xs 7] 99)).alloc (.cells #[.int .i64 p, .int .i64 (n0 : Int), .int .i64 v, .int .i64 t] 58)).alloc (.cells #[.int .i64 0, .int .i64 0, .int .i64 0, .slice none 0 0] 54)) (w.heap.size + 1) 58 #[.int .i64 p, .int .i64 (n0 : Int), .int .i64 v, .int .i64 t] := by have := (Box.new (w.alloc (.cells #[inAt xs 0, inAt xs 1, inAt xs 2, inAt xs 3, inAt xs 4, inAt xs 5, inAt xs 6, inAt xs 7] 99)) 58 #[.int .i64 p, .int .i64 (n0 : Int), .int .i64 v, .int .i64 t]).alloc (.cells #[.int .i64 0, .int .i64 0, .int .i64 0, .slice none 0 0] 54); rwa [World.size_alloc] at this
  have bR0 : Box (((w.alloc (.cells #[inAt xs 0, inAt xs 1, inAt xs 2, inAt xs 3, inAt xs 4, inAt xs 5, inAt xs 6, inAt xs 7] 99)).alloc (.cells #[.int .i64 p, .int .i64 (n0 : Int), .int .i64 v, .int .i64 t] 58)).alloc (.cells #[.int .i64 0, .int .i64 0, .int .i64 0, .slice none 0 0] 54)) (w.heap.size + 1 + 1) 54 #[.int .i64 0, .int .i64 0, .int .i64 0, .slice none 0 0] := by have := Box.new ((w.alloc (.cells #[inAt xs 0, inAt xs 1, inAt xs 2, inAt xs 3, inAt xs 4, inAt xs 5, inAt xs 6, inAt xs 7] 99)).alloc (.cells #[.int .i64 p, .int .i64 (n0 : Int), .int .i64 v, .int .i64 t] 58)) 54 #[.int .i64 0, .int .i64 0, .int .i64 0, .slice none 0 0]; rwa [World.size_alloc, World.size_alloc] at this
  have hx0 := (((Nx.refl w).alloc (.cells #[inAt xs 0, inAt xs 1, inAt xs 2, inAt xs 3, inAt xs 4, inAt xs 5, inAt xs 6, inAt xs 7] 99)).alloc (.cells #[.int .i64 p, .int .i64 (n0 : Int), .int .i64 v, .int .i64 t] 58)).alloc (.cells #[.int .i64 0, .int .i64 0, .int .i64 0, .slice none 0 0] 54)
  go_enter Try.func94, Try.ntmps94
  go_wp2_with fail
  generalize (((w.alloc (.cells #[inAt xs 0, inAt xs 1, inAt xs 2, inAt xs 3, inAt xs 4, inAt xs 5, inAt xs 6, inAt xs 7] 99)).alloc (.cells #[.int .i64 p, .int .i64 (n0 : Int), .int .i64 v, .int .i64 t] 58)).alloc (.cells #[.int .i64 0, .int .i64 0, .int .i64 0, .slice none 0 0] 54)) = W at *
  obtain ⟨gF, HgF⟩ : ∃ g, Hid (w.heap.size + 1 = g) := ⟨_, rfl⟩
  obtain ⟨gR, HgR⟩ : ∃ g, Hid (w.heap.size + 1 + 1 = g) := ⟨_, rfl⟩
  have hgR : w.heap.size ≤ gR := by have := HgR.out; omega
  rw [HgR.out, HgF.out]
  rw [HgF.out] at bF0
  rw [HgR.out] at bR0
  have bF := bF0.nx (Nx.refl _).drew
  obtain ⟨o, Ho⟩ : ∃ o, Hid (xs.getD n0 0 = o) := ⟨_, rfl⟩
  have hcell : W.drew.cell? ⟨w.heap.size, n0, none⟩ = some (.int .i64 o) := by have := (box_inAt bA0).cell hn0; unfold inAt at this; rw [Ho.out] at this; exact this
  have hgw : w.heap.size < W.drew.heap.size := bA0.lt
  have hi0 : (0 : Int) ≤ (n0 : Int) := by omega
  have hi1 : (n0 : Int) < 8 := by omega
  refine wp_region_lex [false, false, false, false, false, false, false, false, false, true, true] (fun w' => (w'.cell? ⟨gF, 0, none⟩ = some (.int .i64 p) ∧ w'.cell? ⟨gF, 1, none⟩ = some (.int .i64 (n0 : Int)) ∧ w'.cell? ⟨gF, 2, none⟩ = some (.int .i64 v) ∧ w'.cell? ⟨gF, 3, none⟩ = some (.int .i64 t)) ∧ w'.cell? ⟨w.heap.size, n0, none⟩ = some (.int .i64 o)) (by kernel_rfl) (by kernel_rfl) rfl (by kernel_rfl) (fun _ _ d _ _ h => by cases d <;> exact h) (by exact ⟨bF.d4, hcell⟩) ?_
  repeat (first | (refine HL.take (v := ?_) (by rfl) ?_ ?_; rotate_left; (· (intro w hSw; (try dsimp only at hSw); go_simp; try with_reducible rfl)); (try simp only [Act.put, List.setIfInBounds_toArray, List.set_cons_zero, List.set_cons_succ])) | (refine HL.skip (by rfl) ?_; (try simp only [Act.put, List.setIfInBounds_toArray, List.set_cons_zero, List.set_cons_succ])))
  refine HL.call (by rfl) (fun K hK => ?_)
  go_simp
  refine hK.out _ _ (by exact ⟨(bF.alloc (.cells #[.int .i64 0, .int .i64 0, .int .i64 0] 84)).d4, (((Nx.refl W.drew).alloc (.cells #[.int .i64 0, .int .i64 0, .int .i64 0] 84)).cell (p := ⟨w.heap.size, n0, none⟩) hgw).trans hcell⟩) ?_
  clear hK K
  try simp only [Act.put, List.setIfInBounds_toArray, List.set_cons_zero, List.set_cons_succ]
  refine HL.call (by rfl) (fun K hK => ?_)
  go_simp
  refine hK.out _ _ (by exact ⟨(bF.alloc (.cells #[.int .i64 (n0 : Int), .int .i64 v, .int .i64 o] 84)).d4, (((Nx.refl W.drew).alloc (.cells #[.int .i64 (n0 : Int), .int .i64 v, .int .i64 o] 84)).cell (p := ⟨w.heap.size, n0, none⟩) hgw).trans hcell⟩) ?_
  clear hK K
  try simp only [Act.put, List.setIfInBounds_toArray, List.set_cons_zero, List.set_cons_succ]
  refine HL.done ?_
  have bF2 := bF.alloc (.cells #[.int .i64 (n0 : Int), .int .i64 v, .int .i64 o] 84)
  have bR2 := (bR0.nx (Nx.refl W).drew).alloc (.cells #[.int .i64 (n0 : Int), .int .i64 v, .int .i64 o] 84)
  have bC2 : Box (W.drew.alloc (.cells #[.int .i64 (n0 : Int), .int .i64 v, .int .i64 o] 84)) W.heap.size 84 #[.int .i64 (n0 : Int), .int .i64 v, .int .i64 o] := Box.new W.drew 84 #[.int .i64 (n0 : Int), .int .i64 v, .int .i64 o]
  have hX2 := hx0.drew.alloc (.cells #[.int .i64 (n0 : Int), .int .i64 v, .int .i64 o] 84)
  have hgz : W.heap.size < (W.drew.alloc (.cells #[.int .i64 (n0 : Int), .int .i64 v, .int .i64 o] 84)).heap.size := bC2.lt
  change Exit.then _ _ _ _ (W.drew.alloc (.cells #[.int .i64 (n0 : Int), .int .i64 v, .int .i64 o] 84))
  generalize W.drew.alloc (.cells #[.int .i64 (n0 : Int), .int .i64 v, .int .i64 o] 84) = W3 at *
  obtain ⟨k0, k1, k2, k3⟩ := bF2.d4
  obtain ⟨m0, m1, m2⟩ := bC2.d3
  obtain ⟨rc0, rc1, rc2, rc3⟩ := bR2.d4
  have rf0 := bR2.frozen 0
  have rf1 := bR2.frozen 1
  have rf2 := bR2.frozen 2
  have rf3 := bR2.frozen 3
  have rlt := bR2.lt
  go_wp2
  have rq := (put4_box bR2 (.int .i64 (p - 1)) (.int .i64 p) (.int .i64 t) (.slice (some ⟨W3.heap.size, 0, none⟩) 1 1)).alloc (.cells #[.int .i64 (n0 : Int), .int .i64 v, .int .i64 o] 84)
  have hnf := (put4_nx (g := gR) hX2 (by omega) (.int .i64 (p - 1)) (.int .i64 p) (.int .i64 t) (.slice (some ⟨W3.heap.size, 0, none⟩) 1 1)).alloc (.cells #[.int .i64 (n0 : Int), .int .i64 v, .int .i64 o] 84)
  unfold put4 at rq hnf
  have hsz3 : ((((W3.setCell ⟨gR, 0, none⟩ (.int .i64 (p - 1))).setCell ⟨gR, 1, none⟩ (.int .i64 p)).setCell ⟨gR, 2, none⟩ (.int .i64 t)).setCell ⟨gR, 3, none⟩ (.slice (some ⟨W3.heap.size, 0, none⟩) 1 1)).heap.size = W3.heap.size := by simp [World.setCell]
  have bC3 := Box.new ((((W3.setCell ⟨gR, 0, none⟩ (.int .i64 (p - 1))).setCell ⟨gR, 1, none⟩ (.int .i64 p)).setCell ⟨gR, 2, none⟩ (.int .i64 t)).setCell ⟨gR, 3, none⟩ (.slice (some ⟨W3.heap.size, 0, none⟩) 1 1)) 84 #[.int .i64 (n0 : Int), .int .i64 v, .int .i64 o]
  rw [hsz3] at bC3
  have hlw := hX2.size
  have hSf : Sl _ w.heap.size (some ⟨W3.heap.size, 0, none⟩) 84 (1 * 3) (chAt [((n0 : Int), v, xs.getD n0 0)]) := Sl.own (by rw [Ho.out]; exact one_own bC3) (by omega)
  clear hsz3
  generalize (((((W3.setCell ⟨gR, 0, none⟩ (.int .i64 (p - 1))).setCell ⟨gR, 1, none⟩ (.int .i64 p)).setCell ⟨gR, 2, none⟩ (.int .i64 t)).setCell ⟨gR, 3, none⟩ (.slice (some ⟨W3.heap.size, 0, none⟩) 1 1)).alloc (.cells #[.int .i64 (n0 : Int), .int .i64 v, .int .i64 o] 84)) = Wf at *
  obtain ⟨rg0, rg1, rg2, rg3⟩ := rq.d4
  exact bodyPost_ret (v := .agg #[.int .i64 (p - 1), .int .i64 p, .int .i64 t, .slice (some ⟨W3.heap.size, 0, none⟩) 1 1]) (by simp [results, Try.results94, go_sem, rg0, rg1, rg2, rg3]) rfl ⟨_, 1, rfl, hSf, hnf⟩

set_option maxRecDepth 100000 in
set_option maxHeartbeats 4000000 in
theorem implSegOf_c (A2 : Option Addr) (c2 B : Nat) (xs : List Int) (p b v t : Int) (w : World) (h : Ins w B A2 xs) (hB : B ≤ w.heap.size) (hn : xs.length ≤ 1048576) :
    Calls Try.prog 34 #[.slice A2 xs.length c2, .agg #[.int .i64 p, .int .i64 b, .int .i64 v, .int .i64 t]] w (RetSC w (sgOf xs p b v t) (askC xs (frameB p b v t))) := by
  have bF0 := (Box.new w 58 #[.int .i64 p, .int .i64 b, .int .i64 v, .int .i64 t]).alloc (.cells #[.int .i64 0, .int .i64 0, .int .i64 0, .slice none 0 0] 54)
  have bR0 := Box.new (w.alloc (.cells #[.int .i64 p, .int .i64 b, .int .i64 v, .int .i64 t] 58)) 54 #[.int .i64 0, .int .i64 0, .int .i64 0, .slice none 0 0]
  have hx0 := ((Nx.refl w).alloc (.cells #[.int .i64 p, .int .i64 b, .int .i64 v, .int .i64 t] 58)).alloc (.cells #[.int .i64 0, .int .i64 0, .int .i64 0, .slice none 0 0] 54)
  simp only [World.size_alloc] at bR0
  obtain ⟨z, Hz⟩ : ∃ z, Hid (askC xs true = z) := ⟨_, rfl⟩
  by_cases hz : z = 0
  case neg =>
    have hd : (z != 0) = true := by simp [hz]
    have HR := Lib.hid (show askC xs (frameB p b v t) = z ∧ sgOf xs p b v t = zSg by
      have := Hz.out
      unfold askC at this ⊢
      unfold sgOf
      by_cases hl : 4096 < xs.length
      · rw [if_pos hl] at this ⊢; rw [(askC_long hl true).2]; exact ⟨this, rfl⟩
      · rw [if_neg hl] at this ⊢
        cases hc : contB xs
        · rw [hc] at this; exact ⟨this, rfl⟩
        · rw [hc] at this; exact absurd this.symm hz)
    go_enter Try.func34, Try.ntmps34
    go_wp2_with fail
    generalize (w.alloc (.cells #[.int .i64 p, .int .i64 b, .int .i64 v, .int .i64 t] 58)).alloc (.cells #[.int .i64 0, .int .i64 0, .int .i64 0, .slice none 0 0] 54) = W at *
    refine (contentCode_c A2 c2 B xs _ (h.below hx0 hB) (Nat.le_trans hB hx0.size) hn).mono ?_
    rintro e w1 ⟨rfl, hx1⟩
    rw [Hz.out]
    have bR := bR0.nx hx1
    have hX := hx0.trans hx1
    obtain ⟨rc0, rc1, rc2, rc3⟩ := bR.d4
    have rf0 := bR.frozen 0
    have rf1 := bR.frozen 1
    have rf2 := bR.frozen 2
    have rf3 := bR.frozen 3
    have rlt := bR.lt
    go_wp2
    have rq := (put4_box bR (.int .i64 0) (.int .i64 0) (.int .i64 0) (.slice none 0 0))
    have hnf := (put4_nx (g := (w.heap.size + 1)) hX (by omega) (.int .i64 0) (.int .i64 0) (.int .i64 0) (.slice none 0 0))
    unfold put4 at rq hnf
    generalize ((((w1.setCell ⟨(w.heap.size + 1), 0, none⟩ (.int .i64 0)).setCell ⟨(w.heap.size + 1), 1, none⟩ (.int .i64 0)).setCell ⟨(w.heap.size + 1), 2, none⟩ (.int .i64 0)).setCell ⟨(w.heap.size + 1), 3, none⟩ (.slice none 0 0)) = Wf at *
    obtain ⟨rg0, rg1, rg2, rg3⟩ := rq.d4
    exact bodyPost_ret (v := .tuple #[.agg #[.int .i64 0, .int .i64 0, .int .i64 0, .slice none 0 0], .int .i64 z]) (by simp [results, Try.results34, go_sem, rg0, rg1, rg2, rg3]) rfl ⟨none, 0, by rw [HR.out.1, HR.out.2]; rfl, by rw [HR.out.2]; exact Sl.none_ _ _ _ _ _, hnf⟩
  subst hz
  have HC := Lib.hid (show ¬ 4096 < xs.length ∧ contB xs = true by
    have := Hz.out
    unfold askC at this
    by_cases hl : 4096 < xs.length
    · rw [if_pos hl] at this; omega
    · rw [if_neg hl] at this
      cases hc : contB xs
      · rw [hc] at this; simp at this
      · exact ⟨hl, rfl⟩)
  cases hfb : frameB p b v t
  · have HFB := Lib.hid hfb
    clear hfb
    have HR := Lib.hid (show askC xs (frameB p b v t) = 1 ∧ sgOf xs p b v t = zSg by
      rw [HFB.out]; unfold askC sgOf; rw [if_neg HC.out.1, HC.out.2, HFB.out]; exact ⟨rfl, rfl⟩)
    rw [HFB.out] at HR
    go_enter Try.func34, Try.ntmps34
    go_wp2_with fail
    generalize (w.alloc (.cells #[.int .i64 p, .int .i64 b, .int .i64 v, .int .i64 t] 58)).alloc (.cells #[.int .i64 0, .int .i64 0, .int .i64 0, .slice none 0 0] 54) = W at *
    refine (contentCode_c A2 c2 B xs _ (h.below hx0 hB) (Nat.le_trans hB hx0.size) hn).mono ?_
    rintro e w1 ⟨rfl, hx1⟩
    rw [Hz.out]
    obtain ⟨k0, k1, k2, k3⟩ := (bF0.nx hx1).d4
    go_wp2_with fail
    refine (frameRight_c p b v t _).mono ?_
    rintro e w2 ⟨rfl, hx2⟩
    rw [HFB.out]
    have bR := (bR0.nx hx1).nx hx2
    have hX := (hx0.trans hx1).trans hx2
    clear k0 k1 k2 k3
    obtain ⟨rc0, rc1, rc2, rc3⟩ := bR.d4
    have rf0 := bR.frozen 0
    have rf1 := bR.frozen 1
    have rf2 := bR.frozen 2
    have rf3 := bR.frozen 3
    have rlt := bR.lt
    go_wp2
    have rq := (put4_box bR (.int .i64 0) (.int .i64 0) (.int .i64 0) (.slice none 0 0))
    have hnf := (put4_nx (g := (w.heap.size + 1)) hX (by omega) (.int .i64 0) (.int .i64 0) (.int .i64 0) (.slice none 0 0))
    unfold put4 at rq hnf
    generalize ((((w2.setCell ⟨(w.heap.size + 1), 0, none⟩ (.int .i64 0)).setCell ⟨(w.heap.size + 1), 1, none⟩ (.int .i64 0)).setCell ⟨(w.heap.size + 1), 2, none⟩ (.int .i64 0)).setCell ⟨(w.heap.size + 1), 3, none⟩ (.slice none 0 0)) = Wf at *
    obtain ⟨rg0, rg1, rg2, rg3⟩ := rq.d4
    exact bodyPost_ret (v := .tuple #[.agg #[.int .i64 0, .int .i64 0, .int .i64 0, .slice none 0 0], .int .i64 1]) (by simp [results, Try.results34, go_sem, rg0, rg1, rg2, rg3]) rfl ⟨none, 0, by rw [HR.out.1, HR.out.2]; rfl, by rw [HR.out.2]; exact Sl.none_ _ _ _ _ _, hnf⟩
  have HFB := Lib.hid hfb
  obtain ⟨hb0, hb7, hp1, hp2, _, _, _, _⟩ := frameB_block hfb
  clear hfb
  obtain ⟨n0, rfl⟩ : ∃ n : Nat, b = n := ⟨b.toNat, by omega⟩
  have HR := Lib.hid (show askC xs (frameB p n0 v t) = 0 ∧ sgOf xs p n0 v t = ofW xs p n0 v t by
    rw [HFB.out]; unfold askC sgOf; rw [if_neg HC.out.1, HC.out.2, HFB.out]; exact ⟨rfl, rfl⟩)
  rw [HFB.out] at HR
  have h8 := (contB_yes HC.out.2).1
  have hn0 : n0 < xs.length := by omega
  have hn1 : (n0 : Int) < (xs.length : Int) := by omega
  have hwp : IntKind.i64.wrap (p - 1) = p - 1 := IntWalk.i64_in _ (by omega)
  have H8 := Lib.hid h8
  clear h8
  go_enter Try.func34, Try.ntmps34
  go_wp2_with fail
  generalize (w.alloc (.cells #[.int .i64 p, .int .i64 (n0 : Int), .int .i64 v, .int .i64 t] 58)).alloc (.cells #[.int .i64 0, .int .i64 0, .int .i64 0, .slice none 0 0] 54) = W at *
  refine (contentCode_c A2 c2 B xs _ (h.below hx0 hB) (Nat.le_trans hB hx0.size) hn).mono ?_
  rintro e w0 ⟨rfl, hx1⟩
  rw [Hz.out]
  obtain ⟨k0, k1, k2, k3⟩ := (bF0.nx hx1).d4
  go_wp2_with fail
  refine (frameRight_c p n0 v t _).mono ?_
  rintro e w1 ⟨rfl, hx2⟩
  rw [HFB.out]
  have bR1 := ((bR0.nx hx1).nx hx2).nx (Nx.refl _).drew
  have hX1 := ((hx0.trans hx1).trans hx2).drew
  have bF := ((bF0.nx hx1).nx hx2).nx (Nx.refl _).drew
  clear k0 k1 k2 k3 bF0 bR0 hx0 hx1 hx2
  obtain ⟨o, Ho⟩ : ∃ o, Hid (xs.getD n0 0 = o) := ⟨_, rfl⟩
  go_wp2_with fail
  refine wp_region_plan (.t 0 (.t 2 (.c 1 (.c 3 (.c 4 (.t 5 .e)))))) (fun w' => w'.cell? ⟨w.heap.size, 0, none⟩ = some (.int .i64 p) ∧ w'.cell? ⟨w.heap.size, 1, none⟩ = some (.int .i64 (n0 : Int)) ∧ w'.cell? ⟨w.heap.size, 2, none⟩ = some (.int .i64 v) ∧ w'.cell? ⟨w.heap.size, 3, none⟩ = some (.int .i64 t)) (by kernel_rfl) (by kernel_rfl) rfl (by kernel_rfl) (fun _ _ d _ _ h => by cases d <;> exact h) (by exact bF.d4) ?_
  simp only [psOf, List.getD_cons_zero, List.getD_cons_succ]
  repeat (first | (refine HP.take (v := ?_) (by rfl) ?_ ?_; rotate_left; (· (intro w hSw; (try dsimp only at hSw); go_simp; try with_reducible rfl)); (try simp only [Act.put, List.setIfInBounds_toArray, List.set_cons_zero, List.set_cons_succ])) | (refine HP.skip (by rfl) ?_; (try simp only [Act.put, List.setIfInBounds_toArray, List.set_cons_zero, List.set_cons_succ])))
  refine HP.call ?_
  refine CallStep.mk (by rfl) (fun K hK => ?_)
  go_simp
  refine (valuesOf_c A2 c2 B xs _ (h.below hX1 hB) (Nat.le_trans hB hX1.size) H8.out).mono ?_; rintro e w2 ⟨rfl, hx3⟩; have bF2 := bF.nx hx3; have bR2 := bR1.nx hx3; have hX2 := hX1.trans hx3; clear bF bR1 hX1 hx3
  go_wp2_with fail
  refine hK.out _ _ (by exact bF2.d4) ?_
  clear hK K
  try simp only [Act.put, List.setIfInBounds_toArray, List.set_cons_zero, List.set_cons_succ]
  refine HP.call ?_
  refine CallStep.mk (by rfl) (fun K hK => ?_)
  go_simp
  refine (valuesSegOf_c xs p v t n0 _ H8.out (by have := H8.out; omega) hp1 (by omega)).mono ?_; rintro e w3 ⟨A9, c9, rfl, hS9, hx4⟩; have bF3 := bF2.nx hx4; have bR := bR2.nx hx4; have hX3 := hX2.trans hx4; have hlw := hX2.size; have hlt9 := bR2.lt; have rf0 := bR.frozen 0; have rf1 := bR.frozen 1; have rf2 := bR.frozen 2; have rf3 := bR.frozen 3; have rlt := bR.lt; obtain ⟨rc0, rc1, rc2, rc3⟩ := bR.d4; clear bF2 bR2 hX2 hx4
  go_wp2_with fail
  refine hK.out _ _ (by exact bF3.d4) ?_
  clear hK K
  try simp only [Act.put, List.setIfInBounds_toArray, List.set_cons_zero, List.set_cons_succ]
  refine HP.call ?_
  refine CallStep.mk (by rfl) (fun K hK => ?_)
  go_simp
  refine hK.out _ _ (by exact ((((bF3.far (p := ⟨(w.heap.size + 1), 0, none⟩) (by simp) (.int .i64 (p - 1))).far (p := ⟨(w.heap.size + 1), 1, none⟩) (by simp) (.int .i64 p)).far (p := ⟨(w.heap.size + 1), 2, none⟩) (by simp) (.int .i64 t)).far (p := ⟨(w.heap.size + 1), 3, none⟩) (by simp) (.slice A9 1 c9)).d4) ?_
  clear hK K
  try simp only [Act.put, List.setIfInBounds_toArray, List.set_cons_zero, List.set_cons_succ]
  repeat (first | (refine HP.take (v := ?_) (by rfl) ?_ ?_; rotate_left; (· (intro w hSw; (try dsimp only at hSw); go_simp; try with_reducible rfl)); (try simp only [Act.put, List.setIfInBounds_toArray, List.set_cons_zero, List.set_cons_succ])) | (refine HP.skip (by rfl) ?_; (try simp only [Act.put, List.setIfInBounds_toArray, List.set_cons_zero, List.set_cons_succ])))
  refine HP.done ?_
  go_wp2_with fail
  have rq := (put4_box bR (.int .i64 (p - 1)) (.int .i64 p) (.int .i64 t) (.slice A9 1 c9))
  have hnf := (put4_nx (g := (w.heap.size + 1)) hX3 (by omega) (.int .i64 (p - 1)) (.int .i64 p) (.int .i64 t) (.slice A9 1 c9))
  unfold put4 at rq hnf
  have hSf0 := ((((hS9.far (p := ⟨(w.heap.size + 1), 0, none⟩) (by simp; omega) (.int .i64 (p - 1))).far (p := ⟨(w.heap.size + 1), 1, none⟩) (by simp; omega) (.int .i64 p)).far (p := ⟨(w.heap.size + 1), 2, none⟩) (by simp; omega) (.int .i64 t)).far (p := ⟨(w.heap.size + 1), 3, none⟩) (by simp; omega) (.slice A9 1 c9))
  have hSf : Sl ((((w3.setCell ⟨(w.heap.size + 1), 0, none⟩ (.int .i64 (p - 1))).setCell ⟨(w.heap.size + 1), 1, none⟩ (.int .i64 p)).setCell ⟨(w.heap.size + 1), 2, none⟩ (.int .i64 t)).setCell ⟨(w.heap.size + 1), 3, none⟩ (.slice A9 1 c9)) w.heap.size A9 84 ((ofW xs p n0 v t).2.2.2.length * 3) (chAt (ofW xs p n0 v t).2.2.2) := by unfold ofW; rw [Int.toNat_natCast]; exact hSf0.low (by omega)
  clear hSf0
  generalize ((((w3.setCell ⟨(w.heap.size + 1), 0, none⟩ (.int .i64 (p - 1))).setCell ⟨(w.heap.size + 1), 1, none⟩ (.int .i64 p)).setCell ⟨(w.heap.size + 1), 2, none⟩ (.int .i64 t)).setCell ⟨(w.heap.size + 1), 3, none⟩ (.slice A9 1 c9)) = Wf at *
  obtain ⟨rg0, rg1, rg2, rg3⟩ := rq.d4
  exact bodyPost_ret (v := .tuple #[.agg #[.int .i64 (p - 1), .int .i64 p, .int .i64 t, .slice A9 1 c9], .int .i64 0]) (by simp [results, Try.results34, go_sem, rg0, rg1, rg2, rg3]) rfl ⟨A9, c9, by rw [HR.out.1, HR.out.2]; unfold ofW; rfl, by rw [HR.out.2]; exact hSf, hnf⟩
end Go.Proofs.Ytihpadelfpogmaa
/- A list of ints that comes in, opened. Conditions: none. -/
namespace Go.Proofs.Ytihpadelfpogmaa
set_option linter.unusedVariables false
set_option maxRecDepth 100000
open Go.Joins Go.ChangeShapes Go.WideShapes Go.RowKit Go.Deep
theorem addr_plain_i {w : World} {a : Addr} {v : Value} (h : w.cell? (a.add 0) = some v) : ∃ b off, a = ⟨b, off, none⟩ ∧ b < w.heap.size := by
  have h' : w.cell? a = some v := by simpa [Addr.add] using h
  have hs := World.cell?_spot h'
  obtain ⟨b, off, sp⟩ := a
  simp only at hs
  subst hs
  exact ⟨b, off, rfl, World.block_lt_of_cell? w _ h'⟩
theorem addr_add_i (b off i : Nat) : (Addr.mk b off none).add i = ⟨b, off + i, none⟩ := by
  unfold Addr.add
  by_cases h : i = 0
  · subst h; simp
  · simp [h]
theorem open_ints {H : Type} {enc : TypeId × Value → H} {w : World} {base : Nat} {spare : Nat → Bool} {held : Bool} {r : Reach} {b0 : Nat} {v : Value} {d : DataW H} {p : List MemPlace}
    (hv : Value.okWide Try.prog w r b0 22 v) (h : DataW.Trod enc Try.prog w base spare held 22 v d p) :
    ∃ (A : Option Addr) (c : Nat) (xs : List Int), v = .slice A xs.length c ∧ Ins w w.heap.size A xs ∧ (∀ k, k < xs.length → (Lit.int .i64 (xs.getD k 0)).wf = true) ∧ xs.length ≤ 2 ^ 63 - 1 := by
  obtain ⟨a0, len0, cap0, rfl⟩ := okWide_slice Try.underlying22 hv
  obtain ⟨fuel, hf⟩ := h
  rcases open_slice Try.underlying22 hf with ⟨hcs, _⟩ | ⟨a, len, cap, m, n, D, Pl, hcs, _, hl, hm, hmm, _, hi⟩
  · simp [Value.cells] at hcs
    obtain ⟨rfl, rfl, rfl⟩ := hcs
    exact ⟨none, 0, [], rfl, fun hn => absurd hn (by simp), fun k hk => absurd hk (by simp), by simp⟩
  · simp [Value.cells] at hcs
    obtain ⟨rfl, rfl, rfl⟩ := hcs
    have hle : len0 ≤ m := by rw [hmm]; split <;> omega
    unfold maxLen at hm
    have key : ∀ i, ∃ q : Int, i < m → w.cell? (a.add i) = some (.int .i64 q) ∧ (Lit.int .i64 q).wf = true := by
      intro i
      by_cases him : i < m
      · obtain ⟨cs', hc, ht⟩ := hi i him
        rw [ci_, Nat.mul_one] at hc
        obtain ⟨_, hcl, hat⟩ := World.cells?_some hc
        obtain ⟨q, e, _, hw⟩ := DataW.trod_int (k := .i64) Try.underlying3 ht
        subst e
        refine ⟨q, fun _ => ⟨?_, hw⟩⟩
        have := hat 0 (by omega)
        simpa [Addr.add] using this
      · exact ⟨0, fun h => absurd h him⟩
    obtain ⟨g, hg⟩ := Classical.skolem.1 key
    have hget : ∀ k, k < len0 → ((List.range len0).map g).getD k 0 = g k := by
      intro k hk
      rw [List.getD_eq_getElem?_getD, List.getElem?_map, List.getElem?_range hk]; rfl
    have hlen : ((List.range len0).map g).length = len0 := by simp
    refine ⟨some a, cap0, (List.range len0).map g, by rw [hlen], fun hn => ?_, fun k hk => ?_, by simp; omega⟩
    · rw [hlen] at hn
      obtain ⟨b, off, rfl, hb⟩ := addr_plain_i (hg 0 (by omega)).1
      refine ⟨b, off, rfl, hb, fun i hi => ?_⟩
      rw [hlen] at hi
      have h1 := (hg i (by omega)).1
      rw [addr_add_i] at h1
      rw [h1]
      unfold inAt
      rw [hget i hi]
    · rw [hlen] at hk
      rw [hget k hk]
      exact (hg k (by omega)).2
end Go.Proofs.Ytihpadelfpogmaa
/- Contracts of the laws' functions that compare segments: of alike ones they answer true. Conditions: the segments can be read, and have at most 1048576 changes. -/
namespace Go.Proofs.Ytihpadelfpogmaa
set_option linter.unusedVariables false
set_option maxRecDepth 100000
open Go.RowKit

set_option maxHeartbeats 1000000 in
theorem eqChange_c (a b c : Int) (w : World) :
    Calls Try.prog 141 #[.agg #[.int .i64 a, .int .i64 b, .int .i64 c], .agg #[.int .i64 a, .int .i64 b, .int .i64 c]] w fun e w' => e = .returned (.bool true) ∧ Nx w w' := by
  go_enter Try.func141, Try.ntmps141
  go_wp2
  go_ret
  exact ⟨rfl, (((Nx.refl _).alloc _).alloc _)⟩

set_option maxRecDepth 100000 in
set_option maxHeartbeats 1000000 in
theorem eqChangeS_c (A A2 : Option Addr) (c c2 B : Nat) (cs : List Chg) (w : World) (h : Chs w B A cs) (h2 : Chs w B A2 cs) (hB : B ≤ w.heap.size) (hn : cs.length ≤ 1048576) :
    Calls Try.prog 95 #[.slice A cs.length c, .slice A2 cs.length c2] w fun e w' => e = .returned (.bool true) ∧ Nx w w' := by
  go_enter Try.func95, Try.ntmps95
  go_wp2
  go_loopw [5] (fun i wr => ∃ k : Nat, k ≤ cs.length ∧ i = .int .i64 k ∧ Nx w wr) (fun i _ => cs.length - (intOf i).toNat)
  case atStart => exact ⟨0, Nat.zero_le _, rfl, Nx.refl _⟩
  case round =>
    obtain ⟨k, hk, rfl, hnx⟩ := hrel
    by_cases hlt : k < cs.length
    · obtain ⟨b, off, rfl, hb, p0, p1, p2⟩ := (h.below hnx hB).at_ hlt
      obtain ⟨b2, off2, rfl, hb2, q0, q1, q2⟩ := (h2.below hnx hB).at_ hlt
      generalize cs.getD k chZ = s at p0 p1 p2 q0 q1 q2
      obtain ⟨x, y, z⟩ := s
      go_wp2_with fail
      go_still_tail 8, (by kernel_rfl)
      change wpList _ _ _ _ _ wr.drew
      have hnx1 : Nx w wr.drew := Below.drew hnx
      generalize wr.drew = wd at *
      go_wp2_with fail
      refine (eqChange_c x y z _).mono ?_
      rintro e w1 ⟨rfl, hnx2⟩
      go_wp2
      go_roundw
      case rel => exact ⟨k + 1, by omega, by go_num, hnx1.trans hnx2⟩
      case measure => simp [intOf]; omega
    · go_wp2
      go_ret
      exact ⟨rfl, hnx⟩

set_option maxHeartbeats 1000000 in
theorem eqSeg_c (f t m : Int) (A A2 : Option Addr) (c c2 B : Nat) (cs : List Chg) (w : World) (h : Chs w B A cs) (h2 : Chs w B A2 cs) (hB : B ≤ w.heap.size) (hn : cs.length ≤ 1048576) :
    Calls Try.prog 35 #[.agg #[.int .i64 f, .int .i64 t, .int .i64 m, .slice A cs.length c], .agg #[.int .i64 f, .int .i64 t, .int .i64 m, .slice A2 cs.length c2]] w fun e w' => e = .returned (.bool true) ∧ Nx w w' := by
  have hx0 := ((Nx.refl w).alloc (.cells #[.int .i64 f, .int .i64 t, .int .i64 m, .slice A cs.length c] 54)).alloc (.cells #[.int .i64 f, .int .i64 t, .int .i64 m, .slice A2 cs.length c2] 54)
  go_enter Try.func35, Try.ntmps35
  go_wp2_with fail
  refine (eqChangeS_c A A2 c c2 B cs _ (h.below hx0 hB) (h2.below hx0 hB) (Nat.le_trans hB hx0.size) hn).mono ?_
  rintro e w1 ⟨rfl, hnx1⟩
  go_wp2
  go_ret
  exact ⟨rfl, hx0.trans hnx1⟩
end Go.Proofs.Ytihpadelfpogmaa
/- Contracts of the laws' functions that mark the memory of segments and look for the marks. Conditions: the changes lie in a block of the call's own; at most 1048576. -/
namespace Go.Proofs.Ytihpadelfpogmaa
set_option linter.unusedVariables false
set_option maxRecDepth 100000
open Go.RowKit

def markAt (k i : Nat) : Value := .int .i64 ((k + i : Nat) : Int)
def FillG (w : World) (lo hi : Nat) (A : Option Addr) (n j k : Nat) : Prop := 0 < n → ∃ g, A = some ⟨g, 0, none⟩ ∧ lo ≤ g ∧ g < hi ∧ Fill w g 84 (n * 3) (j * 3) (markAt k)
set_option maxHeartbeats 1000000 in
theorem markChangeS_c (A : Option Addr) (n c k lo hi : Nat) (f : Nat → Value) (w : World) (h : Sr w lo hi A 84 (n * 3) f) (hn : n ≤ 1048576) (hk : k ≤ 3145729) :
    Calls Try.prog 96 #[.slice A n c, .int .i64 k] w fun e w' => e = .returned (.int .i64 ((k + n * 3 : Nat) : Int)) ∧ Sr w' lo hi A 84 (n * 3) (markAt k) ∧ Rg lo hi w w' := by
  have HS : FillG w lo hi A n 0 k := fun hn0 => by
    obtain ⟨g, e, h1, h2, ho⟩ := h (by omega)
    exact ⟨g, e, h1, h2, Fill.start ho⟩
  go_enter Try.func96, Try.ntmps96
  go_wp2
  go_loopw [1, 5] (fun q i wr => ∃ j : Nat, j ≤ n ∧ i = .int .i64 j ∧ q = .int .i64 ((k + j * 3 : Nat) : Int) ∧ FillG wr lo hi A n j k ∧ Rg lo hi w wr) (fun _ i _ => n - (intOf i).toNat)
  case atStart => exact ⟨0, Nat.zero_le _, rfl, rfl, HS, Rg.of_nx (Nx.refl _)⟩
  case round =>
    obtain ⟨j, hj, rfl, rfl, hf, hrg⟩ := hrel
    clear HS
    by_cases hlt : j < n
    · obtain ⟨g, rfl, hg1, hg2, hfill⟩ := hf (by omega)
      obtain ⟨q, Hq⟩ : ∃ q, Hid (k + j * 3 = q) := ⟨_, rfl⟩
      have hq9 : q ≤ 8000000 := by have := Hq.out; omega
      rw [Hq.out]
      obtain ⟨v0, hv0⟩ := hfill.some_ (i := j * 3) (by omega)
      obtain ⟨v1, hv1⟩ := hfill.some_ (i := j * 3 + 1) (by omega)
      obtain ⟨v2, hv2⟩ := hfill.some_ (i := j * 3 + 2) (by omega)
      have hz0 := hfill.frozen (j * 3)
      have hz1 := hfill.frozen (j * 3 + 1)
      have hz2 := hfill.frozen (j * 3 + 2)
      go_wp2
      go_roundw
      case rel =>
        have e0 : Value.int .i64 (q : Int) = markAt k (j * 3) := by unfold markAt; rw [Hq.out]
        have e1 : Value.int .i64 ((q : Int) + 1) = markAt k (j * 3 + 1) := by unfold markAt; rw [← Hq.out]; go_num
        have e2 : Value.int .i64 ((q : Int) + 1 + 1) = markAt k (j * 3 + 1 + 1) := by unfold markAt; rw [← Hq.out]; go_num
        first
          | (refine ⟨j + 1, by omega, by go_num, by rw [show k + (j + 1) * 3 = q + 3 by have := Hq.out; omega]; go_num, fun _ => ⟨g, rfl, hg1, hg2, ?_⟩, ((hrg.setCell hg1 hg2 _).setCell hg1 hg2 _).setCell hg1 hg2 _⟩
             rw [show (j + 1) * 3 = j * 3 + 1 + 1 + 1 by omega]
             exact ((hfill.step (by omega) e0).step (by omega) e1).step (by omega) e2)
          | (refine ⟨j + 1, by omega, by go_num, by rw [show k + (j + 1) * 3 = q + 3 by have := Hq.out; omega]; go_num, fun _ => ⟨g, rfl, hg1, hg2, ?_⟩, ((hrg.setCell hg1 hg2 _).setCell hg1 hg2 _).setCell hg1 hg2 _⟩
             rw [show (j + 1) * 3 = j * 3 + 1 + 1 + 1 by omega]
             exact ((hfill.step (by omega) e0).step (by omega) e1).step (by omega) (by rw [← e2]; go_num))
      case measure => simp [intOf]; omega
    · obtain rfl : j = n := by omega
      go_wp2
      go_ret
      refine ⟨rfl, fun hn0 => ?_, hrg⟩
      obtain ⟨g, e, h1, h2, ho⟩ := hf (by omega)
      exact ⟨g, e, h1, h2, ho.done⟩
set_option maxHeartbeats 1000000 in
theorem heldChangeS_c (A : Option Addr) (n c k B : Nat) (w : World) (h : Row w B A (n * 3) (markAt k)) (hn : n ≤ 1048576) (hk : k ≤ 1048576) :
    Calls Try.prog 97 #[.slice A n c, .int .i64 k] w fun e w' => e = .returned (.int .i64 ((k + n * 3 : Nat) : Int)) ∧ w = w' := by
  go_enter Try.func97, Try.ntmps97
  go_wp2
  go_loop [1, 5] (fun q i => ∃ j : Nat, j ≤ n ∧ i = .int .i64 j ∧ q = .int .i64 ((k + j * 3 : Nat) : Int)) (fun _ i => n - (intOf i).toNat)
  case atStart => exact ⟨0, Nat.zero_le _, rfl, rfl⟩
  case round =>
    obtain ⟨j, hj, rfl, rfl⟩ := hrel
    by_cases hlt : j < n
    · obtain ⟨b, off, rfl, hb, hc⟩ := h (by omega)
      obtain ⟨q, Hq⟩ : ∃ q, Hid (k + j * 3 = q) := ⟨_, rfl⟩
      have hq9 : q ≤ 8000000 := by have := Hq.out; omega
      have c0 : w.cell? ⟨b, off + j * 3, none⟩ = some (.int .i64 (q : Int)) := by rw [hc (j * 3) (by omega)]; unfold markAt; rw [Hq.out]
      have c1 : w.cell? ⟨b, off + j * 3 + 1, none⟩ = some (.int .i64 ((q : Int) + 1)) := by rw [show off + j * 3 + 1 = off + (j * 3 + 1) by omega, hc (j * 3 + 1) (by omega)]; unfold markAt; rw [← Hq.out]; congr 2
      have c2 : w.cell? ⟨b, off + j * 3 + 2, none⟩ = some (.int .i64 ((q : Int) + 2)) := by rw [show off + j * 3 + 2 = off + (j * 3 + 2) by omega, hc (j * 3 + 2) (by omega)]; unfold markAt; rw [← Hq.out]; congr 2
      have d1 : ((q : Int) + 2 != (q : Int) + 1 + 1) = false := by rw [bne_eq_false_iff_eq]; omega
      rw [Hq.out]
      clear hc
      go_wp2
      go_round
      case rel => exact ⟨j + 1, by omega, by go_num, by rw [show k + (j + 1) * 3 = q + 3 by have := Hq.out; omega]; go_num⟩
      case measure => simp [intOf]; omega
    · obtain rfl : j = n := by omega
      go_wp2
      go_ret
      exact ⟨rfl, rfl⟩
set_option maxHeartbeats 1000000 in
theorem markSeg_c (f t m : Int) (A : Option Addr) (n c lo hi : Nat) (F : Nat → Value) (w : World) (h : Sr w lo hi A 84 (n * 3) F) (hi' : hi ≤ w.heap.size) (hn : n ≤ 1048576) :
    Calls Try.prog 36 #[.agg #[.int .i64 f, .int .i64 t, .int .i64 m, .slice A n c], .int .i64 1] w fun e w' => e = .returned (.int .i64 ((1 + n * 3 : Nat) : Int)) ∧ Sr w' lo hi A 84 (n * 3) (markAt 1) ∧ Rg lo hi w w' := by
  have hx0 := (Nx.refl w).alloc (.cells #[.int .i64 f, .int .i64 t, .int .i64 m, .slice A n c] 54)
  go_enter Try.func36, Try.ntmps36
  go_wp2_with fail
  refine (markChangeS_c A n c 1 lo hi F _ (h.nx hx0) hn (by omega)).mono ?_
  rintro e w1 ⟨rfl, hs, hr⟩
  obtain ⟨q, Hq⟩ : ∃ q, Hid (1 + n * 3 = q) := ⟨_, rfl⟩
  rw [Hq.out]
  go_wp2
  go_ret
  exact ⟨by rw [Hq.out]; rfl, hs, (Rg.of_nx hx0).trans hr⟩
set_option maxHeartbeats 1000000 in
theorem heldSeg_c (f t m : Int) (A : Option Addr) (n c B : Nat) (w : World) (h : Row w B A (n * 3) (markAt 1)) (hB : B ≤ w.heap.size) (hn : n ≤ 1048576) :
    Calls Try.prog 37 #[.agg #[.int .i64 f, .int .i64 t, .int .i64 m, .slice A n c], .int .i64 1] w fun e w' => e = .returned (.int .i64 ((1 + n * 3 : Nat) : Int)) ∧ Nx w w' := by
  have hx0 := (Nx.refl w).alloc (.cells #[.int .i64 f, .int .i64 t, .int .i64 m, .slice A n c] 54)
  go_enter Try.func37, Try.ntmps37
  go_wp2_with fail
  refine (heldChangeS_c A n c 1 B _ (h.below hx0 hB) hn (by omega)).mono ?_
  rintro e w1 ⟨rfl, rfl⟩
  obtain ⟨q, Hq⟩ : ∃ q, Hid (1 + n * 3 = q) := ⟨_, rfl⟩
  have hd : decide ((q : Int) < 0) = false := by simp
  rw [Hq.out]
  go_wp2
  go_ret
  exact ⟨by rw [Hq.out]; rfl, hx0⟩
end Go.Proofs.Ytihpadelfpogmaa
/- Contracts of the laws' function that makes the program's frames out of the laws' own, and the walk of the law FnExactFrameOK. Conditions: none. -/
namespace Go.Proofs.Ytihpadelfpogmaa
set_option linter.unusedVariables false
set_option maxRecDepth 100000
open Go.RowKit
set_option maxHeartbeats 1000000 in
theorem toFrame_c (p b v t : Int) (w : World) :
    Calls Try.prog 33 #[.agg #[.int .i64 p, .int .i64 b, .int .i64 v, .int .i64 t]] w fun e w' => e = .returned (.agg #[.int .i64 p, .int .i64 b, .int .i64 v, .int .i64 t]) ∧ Nx w w' := by
  go_enter Try.func33, Try.ntmps33
  go_wp2
  exact bodyPost_ret (v := .agg #[.int .i64 p, .int .i64 b, .int .i64 v, .int .i64 t]) (by simp [results, Try.results33, go_sem]) rfl ⟨rfl, ((((Nx.refl _).alloc _).alloc _).alloc _)⟩
end Go.Proofs.Ytihpadelfpogmaa
