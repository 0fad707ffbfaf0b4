/-
  Contracts of the laws' functions that count the size of segments, and that make the program's segments out of the laws' own; a segment that comes in, opened.
  Conditions: what is counted or copied can be read; copied: it has at most 1048576 changes.
-/
import Derived.Test.YtihpadelfpogmaaSeg
import Derived.Test.YtihpadelfpogmaaOpf
import Derived.Deep.Strs
namespace Go.Proofs.Ytihpadelfpogmaa
set_option linter.unusedVariables false
set_option maxRecDepth 100000
open Go.Joins Go.ChangeShapes Go.WideShapes Go.RowKit Go.Deep

set_option maxHeartbeats 1000000 in
theorem szSeg_c (f t m : Int) (A : Option Addr) (n c : Nat) (left : Int) (w : World) (hn : n ≤ 2 ^ 63 - 1) (h0 : 0 ≤ left) (h1 : left ≤ 1048576) :
    Calls Try.prog 123 #[.agg #[.int .i64 f, .int .i64 t, .int .i64 m, .slice A n c], .int .i64 left] w fun e w' => e = .returned (.int .i64 (szR left n)) ∧ Nx w w' := by
  have key : ∀ W : World, Calls Try.prog 154 #[.slice A n c, .int .i64 left] W fun e w' => e = .returned (.int .i64 (szR left n)) ∧ W = w' := by
    intro W
    by_cases hle : (n : Int) ≤ left
    · have HF := Lib.hid (szR_yes hle)
      have hd : decide (left - (n : Int) < 0) = false := by simp; omega
      go_enter Try.func154, Try.ntmps154
      go_wp2
      go_ret
      exact ⟨ret_int HF.out, rfl⟩
    · have HF := Lib.hid (szR_no (left := left) (cost := n) (by omega))
      have hd : decide (left - (n : Int) < 0) = true := by simp; omega
      go_enter Try.func154, Try.ntmps154
      go_wp2
      go_ret
      exact ⟨ret_int HF.out, rfl⟩
  by_cases hle : (n : Int) ≤ left
  · have HF := Lib.hid (szR_yes hle)
    have hd : decide (left - (n : Int) < 0) = false := by simp; omega
    go_enter Try.func123, Try.ntmps123
    go_wp2_with fail
    refine (key _).mono ?_
    rintro e w1 ⟨rfl, rfl⟩
    rw [← HF.out]
    go_wp2
    go_ret
    exact ⟨ret_int HF.out, (Nx.refl _).alloc _⟩
  · have HF := Lib.hid (szR_no (left := left) (cost := n) (by omega))
    go_enter Try.func123, Try.ntmps123
    go_wp2_with fail
    refine (key _).mono ?_
    rintro e w1 ⟨rfl, rfl⟩
    rw [← HF.out]
    go_wp2
    go_ret
    exact ⟨ret_int HF.out, (Nx.refl _).alloc _⟩

theorem info_ch : (Try.prog.info? 84).map (fun i => (i.zero, i.size, i.bytes)) = some (some (.agg #[.int .i64 0, .int .i64 0, .int .i64 0]), 3, 24) := by kernel_rfl
set_option maxHeartbeats 1000000 in
theorem toChange_c (a b c : Int) (w : World) :
    Calls Try.prog 164 #[.agg #[.int .i64 a, .int .i64 b, .int .i64 c]] w fun e w' => e = .returned (.agg #[.int .i64 a, .int .i64 b, .int .i64 c]) ∧ Nx w w' := by
  go_enter Try.func164, Try.ntmps164
  go_wp2
  exact bodyPost_ret (v := .agg #[.int .i64 a, .int .i64 b, .int .i64 c]) (by simp [results, Try.results164, go_sem]) rfl ⟨rfl, ((((Nx.refl _).alloc _).alloc _).alloc _)⟩
/-- What a function leaves that answers a list of changes in new memory. -/
def RetC (w : World) (cs : List Chg) (e : Ending) (w' : World) : Prop := ∃ (A : Option Addr) (c : Nat), e = .returned (.slice A cs.length c) ∧ Sl w' w.heap.size A 84 (cs.length * 3) (chAt cs) ∧ Nx w w'
def RetG (w : World) (f t m : Int) (cs : List Chg) (e : Ending) (w' : World) : Prop := ∃ (A : Option Addr) (c : Nat), e = .returned (.agg #[.int .i64 f, .int .i64 t, .int .i64 m, .slice A cs.length c]) ∧ Sl w' w.heap.size A 84 (cs.length * 3) (chAt cs) ∧ Nx w w'
set_option maxHeartbeats 1000000 in
theorem toChangeS_c (A : Option Addr) (c B : Nat) (cs : List Chg) (w : World) (h : Chs w B A cs) (hB : B ≤ w.heap.size) (hn : cs.length ≤ 1048576) :
    Calls Try.prog 157 #[.slice A cs.length c] w (RetC w cs) := by
  obtain ⟨i0, hi0, hz0, hz1, hz2⟩ := info_parts info_ch
  have hmk := fun W => run_make_rowN (P := Try.prog) 52 84 i0 _ Try.underlying52 hi0 hz0 .i64 .i64 cs.length cs.length (Nat.le_refl _) (by rw [hz2]; omega) (by omega) W
  rw [hz1] at hmk
  have hmade := Own.made w #[Value.int .i64 0, Value.int .i64 0, Value.int .i64 0] (cs.length * 3) 84
  go_enter Try.func157, Try.ntmps157
  go_wp2
  go_loopw [4] (fun i wr => ∃ k : Nat, k ≤ cs.length ∧ i = .int .i64 k ∧ Fill wr w.heap.size 84 (cs.length * 3) (k * 3) (chAt cs) ∧ Nx w wr) (fun i _ => cs.length - (intOf i).toNat)
  case atStart => exact ⟨0, Nat.zero_le _, rfl, Fill.start hmade, (Nx.refl _).alloc _⟩
  case round =>
    obtain ⟨k, hk, rfl, hf, hnx⟩ := hrel
    by_cases hlt : k < cs.length
    · obtain ⟨b, off, rfl, hb, p0, p1, p2⟩ := (h.below hnx hB).at_ hlt
      clear hmk hmade
      obtain ⟨⟨x, y, z⟩, Hs⟩ : ∃ s, Hid (cs.getD k chZ = s) := ⟨_, rfl⟩
      rw [Hs.out] at p0 p1 p2
      go_wp2_with fail
      refine (toChange_c x y z _).mono ?_
      rintro e w1 ⟨rfl, hnx1⟩
      have hf1 := hf.nx hnx1
      obtain ⟨v0, hv0⟩ := hf1.some_ (i := k * 3) (by omega)
      obtain ⟨v1, hv1⟩ := hf1.some_ (i := k * 3 + 1) (by omega)
      obtain ⟨v2, hv2⟩ := hf1.some_ (i := k * 3 + 2) (by omega)
      have hz0 := hf1.frozen (k * 3)
      have hz1 := hf1.frozen (k * 3 + 1)
      have hz2 := hf1.frozen (k * 3 + 2)
      clear p0 p1 p2
      go_wp2
      go_roundw
      case rel =>
        refine ⟨k + 1, by omega, by go_num, ?_, (((hnx.trans hnx1).setCell (Nat.le_refl _) _).setCell (Nat.le_refl _) _).setCell (Nat.le_refl _) _⟩
        have e2 : (k + 1) * 3 = k * 3 + 1 + 1 + 1 := by omega
        rw [e2]
        exact ((hf1.step (by omega) (by rw [chAt0, Hs.out])).step (by omega) (by rw [chAt1, Hs.out])).step (by omega) (by rw [show k * 3 + 1 + 1 = k * 3 + 2 by omega, chAt2, Hs.out])
      case measure => simp [intOf]; omega
    · obtain rfl : k = cs.length := by omega
      go_wp2
      go_ret
      exact ⟨_, _, rfl, Sl.own hf.done (Nat.le_refl _), hnx⟩

set_option maxHeartbeats 1000000 in
theorem toSeg_c (f t m : Int) (A : Option Addr) (c B : Nat) (cs : List Chg) (w : World) (h : Chs w B A cs) (hB : B ≤ w.heap.size) (hn : cs.length ≤ 1048576) :
    Calls Try.prog 126 #[.agg #[.int .i64 f, .int .i64 t, .int .i64 m, .slice A cs.length c]] w (RetG w f t m cs) := by
  go_enter Try.func126, Try.ntmps126
  go_wp2_with fail
  have b1 := (Box.new (w.alloc (.cells #[.int .i64 f, .int .i64 t, .int .i64 m, .slice A cs.length c] 138)) 54 #[.int .i64 0, .int .i64 0, .int .i64 0, .slice none 0 0]).alloc (.cells #[.int .i64 f, .int .i64 t, .int .i64 m, .slice none 0 0] 54)
  have b2 := Box.new ((w.alloc (.cells #[.int .i64 f, .int .i64 t, .int .i64 m, .slice A cs.length c] 138)).alloc (.cells #[.int .i64 0, .int .i64 0, .int .i64 0, .slice none 0 0] 54)) 54 #[.int .i64 f, .int .i64 t, .int .i64 m, .slice none 0 0]
  have hnx0 := (((Nx.refl w).alloc (.cells #[.int .i64 f, .int .i64 t, .int .i64 m, .slice A cs.length c] 138)).alloc (.cells #[.int .i64 0, .int .i64 0, .int .i64 0, .slice none 0 0] 54)).alloc (.cells #[.int .i64 f, .int .i64 t, .int .i64 m, .slice none 0 0] 54)
  have hsz : (((w.alloc (.cells #[.int .i64 f, .int .i64 t, .int .i64 m, .slice A cs.length c] 138)).alloc (.cells #[.int .i64 0, .int .i64 0, .int .i64 0, .slice none 0 0] 54)).alloc (.cells #[.int .i64 f, .int .i64 t, .int .i64 m, .slice none 0 0] 54)).heap.size = w.heap.size + 1 + 1 + 1 := by simp only [World.size_alloc]
  simp only [World.size_alloc] at b1 b2
  generalize (((w.alloc (.cells #[.int .i64 f, .int .i64 t, .int .i64 m, .slice A cs.length c] 138)).alloc (.cells #[.int .i64 0, .int .i64 0, .int .i64 0, .slice none 0 0] 54)).alloc (.cells #[.int .i64 f, .int .i64 t, .int .i64 m, .slice none 0 0] 54)) = W at *
  have Hsz := Lib.hid hsz
  clear hsz
  refine (toChangeS_c A c B cs _ (h.below hnx0 hB) (by have := Hsz.out; omega) hn).mono ?_
  rintro e w1 ⟨A3, c3, rfl, hS, hnx1⟩
  have b1t := b1.nx hnx1
  have b2t := b2.nx hnx1
  obtain ⟨d0, d1, d2, d3⟩ := b2t.d4
  obtain ⟨e0, e1, e2, e3⟩ := b1t.d4
  have f23 := b2t.frozen 3
  have f10 := b1t.frozen 0
  have f11 := b1t.frozen 1
  have f12 := b1t.frozen 2
  have f13 := b1t.frozen 3
  go_wp2
  have hz := Hsz.out
  have q := ((((b1t.far (p := ⟨w.heap.size + 1 + 1, 3, none⟩) (by simp) (.slice A3 cs.length c3)).set 0 (.int .i64 f)).set 1 (.int .i64 t)).set 2 (.int .i64 m)).set 3 (.slice A3 cs.length c3)
  have hSf := ((((hS.far (p := ⟨w.heap.size + 1 + 1, 3, none⟩) (by simp; omega) (.slice A3 cs.length c3)).far (p := ⟨w.heap.size + 1, 0, none⟩) (by simp; omega) (.int .i64 f)).far (p := ⟨w.heap.size + 1, 1, none⟩) (by simp; omega) (.int .i64 t)).far (p := ⟨w.heap.size + 1, 2, none⟩) (by simp; omega) (.int .i64 m)).far (p := ⟨w.heap.size + 1, 3, none⟩) (by simp; omega) (.slice A3 cs.length c3)
  have hnf := (((((hnx0.trans hnx1).setCell (p := ⟨w.heap.size + 1 + 1, 3, none⟩) (by simp; omega) (.slice A3 cs.length c3)).setCell (p := ⟨w.heap.size + 1, 0, none⟩) (by simp) (.int .i64 f)).setCell (p := ⟨w.heap.size + 1, 1, none⟩) (by simp) (.int .i64 t)).setCell (p := ⟨w.heap.size + 1, 2, none⟩) (by simp) (.int .i64 m)).setCell (p := ⟨w.heap.size + 1, 3, none⟩) (by simp) (.slice A3 cs.length c3)
  generalize ((((w1.setCell ⟨w.heap.size + 1 + 1, 3, none⟩ (.slice A3 cs.length c3)).setCell ⟨w.heap.size + 1, 0, none⟩ (.int .i64 f)).setCell ⟨w.heap.size + 1, 1, none⟩ (.int .i64 t)).setCell ⟨w.heap.size + 1, 2, none⟩ (.int .i64 m)).setCell ⟨w.heap.size + 1, 3, none⟩ (.slice A3 cs.length c3) = Wf at *
  have g0 := q.cell 0
  have g1 := q.cell 1
  have g2 := q.cell 2
  have g3 := q.cell 3
  simp at g0 g1 g2 g3
  exact bodyPost_ret (v := .agg #[.int .i64 f, .int .i64 t, .int .i64 m, .slice A3 cs.length c3]) (by simp [results, Try.results126, go_sem, g0, g1, g2, g3]) rfl ⟨A3, c3, rfl, hSf.low (by omega), hnf⟩

theorem cLC : Try.prog.cellsOf 166 = 3 := by kernel_rfl
theorem cLG : Try.prog.cellsOf 138 = 4 := by kernel_rfl
theorem addr_plain {w : World} {a : Addr} {v : Value} (h : w.cell? (a.add 0) = some v) : ∃ b off, a = ⟨b, off, none⟩ ∧ b < w.heap.size := by
  have h' : w.cell? a = some v := by simpa [Addr.add] using h
  have hs := World.cell?_spot h'
  obtain ⟨b, off, sp⟩ := a
  simp only at hs
  subst hs
  exact ⟨b, off, rfl, World.block_lt_of_cell? w _ h'⟩
theorem addr_add (b off i : Nat) : (Addr.mk b off none).add i = ⟨b, off + i, none⟩ := by
  unfold Addr.add
  by_cases h : i = 0
  · subst h; simp
  · simp [h]
section
variable {H : Type} {enc : TypeId × Value → H} {w : World} {base : Nat} {spare : Nat → Bool} {held : Bool}
set_option maxRecDepth 100000 in
theorem open_chs_ {fuel : Nat} {v : Value} {x : DataW H × List MemPlace} (h : DataW.trod enc Try.prog w base spare held fuel 136 [v] = some x) :
    ∃ (A : Option Addr) (c : Nat) (cs : List Chg), v = .slice A cs.length c ∧ Chs w w.heap.size A cs ∧ cs.length ≤ 2 ^ 63 - 1 := by
  rcases open_slice Try.underlying136 h with ⟨hcs, _⟩ | ⟨a, len, cap, m, n, D, Pl, hcs, _, hl, hm, hmm, _, hi⟩
  · exact ⟨none, 0, [], by simpa using hcs, fun hn => absurd hn (by simp), by simp⟩
  · have hle : len ≤ m := by rw [hmm]; split <;> omega
    unfold maxLen at hm
    have key : ∀ i, ∃ p : Chg, i < m → w.cell? (a.add (i * 3)) = some (.int .i64 p.1) ∧ w.cell? ((a.add (i * 3)).add 1) = some (.int .i64 p.2.1) ∧ w.cell? ((a.add (i * 3)).add 2) = some (.int .i64 p.2.2) := by
      intro i
      by_cases him : i < m
      · obtain ⟨cs', hc, ht⟩ := hi i him
        rw [cLC] at hc
        obtain ⟨_, hcl, hat⟩ := World.cells?_some hc
        obtain ⟨y0, y1, y2, k, _, _, t0, t1, t2⟩ := trod_struct3 Try.underlying166 ht
        match cs', hcl with
        | [u0, u1, u2], _ =>
          have e0 : ∃ q, [u0] = [Value.int .i64 q] := by
            obtain ⟨q, e, _, _⟩ := DataW.trod_int (k := .i64) Try.underlying3 t0
            rw [ci_] at e
            exact ⟨q, e⟩
          have e1 : ∃ q, [u1] = [Value.int .i64 q] := by
            obtain ⟨q, e, _, _⟩ := DataW.trod_int (k := .i64) Try.underlying3 t1
            rw [ci_] at e
            exact ⟨q, e⟩
          have e2 : ∃ q, [u2] = [Value.int .i64 q] := by
            obtain ⟨q, e, _, _⟩ := DataW.trod_int (k := .i64) Try.underlying3 t2
            rw [ci_] at e
            exact ⟨q, e⟩
          obtain ⟨q0, e0⟩ := e0
          obtain ⟨q1, e1⟩ := e1
          obtain ⟨q2, e2⟩ := e2
          simp only [List.cons.injEq, and_true] at e0 e1 e2
          subst e0 e1 e2
          refine ⟨(q0, q1, q2), fun _ => ⟨?_, hat 1 (by omega), hat 2 (by omega)⟩⟩
          have := hat 0 (by omega)
          simpa [Addr.add] using this
      · exact ⟨(0, 0, 0), fun h => absurd h him⟩
    obtain ⟨g, hg⟩ := Classical.skolem.1 key
    have hget : ∀ k, k < len → ((List.range len).map g).getD k chZ = g k := by
      intro k hk
      rw [List.getD_eq_getElem?_getD, List.getElem?_map, List.getElem?_range hk]; rfl
    refine ⟨some a, cap, (List.range len).map g, by simpa using hcs, fun hn => ?_, by simp; omega⟩
    have hlen : ((List.range len).map g).length = len := by simp
    rw [hlen] at hn
    have h0 := (hg 0 (by omega)).1
    rw [Nat.zero_mul] at h0
    obtain ⟨b, off, rfl, hb⟩ := addr_plain h0
    refine ⟨b, off, rfl, hb, fun i hi => ?_⟩
    rw [hlen] at hi
    have h1 := (hg (i / 3) (by omega)).1
    have h2 := (hg (i / 3) (by omega)).2.1
    have h3 := (hg (i / 3) (by omega)).2.2
    rw [addr_add] at h1 h2 h3
    rw [addr_add] at h2 h3
    unfold chAt
    rw [hget _ (by omega)]
    by_cases hp : i % 3 = 0
    · rw [if_pos hp, show off + i = off + i / 3 * 3 by omega]
      exact h1
    · by_cases hp2 : i % 3 = 1
      · rw [if_neg hp, if_pos hp2, show off + i = off + i / 3 * 3 + 1 by omega]
        exact h2
      · rw [if_neg hp, if_neg hp2, show off + i = off + i / 3 * 3 + 2 by omega]
        exact h3
set_option maxRecDepth 100000 in
theorem open_seg {r : Reach} {b0 : Nat} {v : Value} {d : DataW H} {p : List MemPlace} (hv : Value.okWide Try.prog w r b0 138 v) (h : DataW.Trod enc Try.prog w base spare held 138 v d p) :
    ∃ (f t m : Int) (A : Option Addr) (c : Nat) (cs : List Chg), v = .agg #[.int .i64 f, .int .i64 t, .int .i64 m, .slice A cs.length c] ∧ Chs w w.heap.size A cs ∧ cs.length ≤ 2 ^ 63 - 1 := by
  obtain ⟨v0, v1, v2, v3, y0, y1, y2, y3, m, rfl, _, _, t0, t1, t2, t3⟩ := open_agg4 Try.underlying138 (by kernel_rfl) cLG hv h
  obtain ⟨q0, rfl, _⟩ := one_int t0
  obtain ⟨q1, rfl, _⟩ := one_int t1
  obtain ⟨q2, rfl, _⟩ := one_int t2
  obtain ⟨A, c, cs, rfl, hS, hn⟩ := open_chs_ t3
  exact ⟨q0, q1, q2, A, c, cs, rfl, hS, hn⟩
end
end Go.Proofs.Ytihpadelfpogmaa
