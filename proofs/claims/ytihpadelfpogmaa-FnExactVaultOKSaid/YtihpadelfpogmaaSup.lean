/-
  Contracts of the laws' functions that make and compare supers; a super that comes in, opened; what a super is, and contracts of names of marks and of looking a number up in a list.
  Conditions: what is read can be read, and holds at most 1048576 elements of a kind.
-/
import Derived.Test.YtihpadelfpogmaaMks
import Derived.IntWalk
namespace Go.Proofs.Ytihpadelfpogmaa
set_option linter.unusedVariables false
set_option maxRecDepth 100000
open Go.Joins Go.ChangeShapes Go.WideShapes Go.RowKit Go.Deep

def RetIc (w : World) (xs : List Int) (e : Ending) (w' : World) : Prop := ∃ (A : Option Addr) (c : Nat), e = .returned (.slice A xs.length c) ∧ xs.length ≤ c ∧ SlI w' w.heap.size A xs ∧ Nx w w'
set_option maxHeartbeats 1000000 in
theorem toIntSc_c (A : Option Addr) (c B : Nat) (xs : List Int) (w : World) (h : Ins w B A xs) (hB : B ≤ w.heap.size) (hn : xs.length ≤ 1048576) :
    Calls Try.prog 32 #[.slice A xs.length c] w (RetIc w xs) := by
  obtain ⟨i0, hi0, hz0, hz1, hz2⟩ := info_parts info_int
  have hmk := fun W => run_make_rowN (P := Try.prog) 22 3 i0 _ Try.underlying22 hi0 hz0 .i64 .i64 xs.length xs.length (Nat.le_refl _) (by rw [hz2]; omega) (by omega) W
  rw [hz1] at hmk
  have hmade := Own.made w #[Value.int .i64 0] xs.length 3
  go_enter Try.func32, Try.ntmps32
  go_wp2
  go_loopw [4] (fun i wr => ∃ k : Nat, k ≤ xs.length ∧ i = .int .i64 k ∧ Fill wr w.heap.size 3 xs.length k (inAt xs) ∧ Nx w wr) (fun i _ => xs.length - (intOf i).toNat)
  case atStart => exact ⟨0, Nat.zero_le _, rfl, Fill.start hmade, (Nx.refl _).alloc _⟩
  case round =>
    obtain ⟨k, hk, rfl, hf, hnx⟩ := hrel
    by_cases hlt : k < xs.length
    · obtain ⟨b, off, rfl, hb, hc⟩ := (h.below hnx hB).at_ hlt
      obtain ⟨v, hv⟩ := hf.some_ hlt
      have hz := hf.frozen k
      clear hmk hmade
      obtain ⟨s, Hs⟩ : ∃ s, Hid (xs.getD k 0 = s) := ⟨_, rfl⟩
      rw [Hs.out] at hc
      go_wp2
      go_roundw
      case rel => exact ⟨k + 1, by omega, by go_num, hf.step hlt (by unfold inAt; rw [Hs.out]), hnx.setCell (Nat.le_refl _) _⟩
      case measure => simp [intOf]; omega
    · obtain rfl : k = xs.length := by omega
      go_wp2
      go_ret
      exact ⟨_, _, rfl, Nat.le_refl _, Sl.own hf.done (Nat.le_refl _), hnx⟩
set_option maxHeartbeats 2000000 in
theorem toSuper_c (g b p t : Int) (A A2 : Option Addr) (c c2 B : Nat) (xs : List Int) (ms : List Mrk) (w : World) (h : Ins w B A xs) (h2 : Mks w B A2 ms) (hB : B ≤ w.heap.size) (hn : xs.length ≤ 1048576) (hn2 : ms.length ≤ 1048576) :
    Calls Try.prog 40 #[.agg #[.int .i64 g, .int .i64 b, .int .i64 p, .int .i64 t, .slice A xs.length c, .slice A2 ms.length c2]] w (RetU w g b p t xs ms) := by
  go_enter Try.func40, Try.ntmps40
  go_wp2_with fail
  have b0 := ((Box.new w 25 #[.int .i64 g, .int .i64 b, .int .i64 p, .int .i64 t, .slice A xs.length c, .slice A2 ms.length c2]).alloc (.cells #[.int .i64 0, .int .i64 0, .int .i64 0, .int .i64 0, .slice none 0 0, .slice none 0 0] 33)).alloc (.cells #[.int .i64 g, .int .i64 b, .int .i64 p, .int .i64 t, .slice none 0 0, .slice none 0 0] 33)
  have b1 := (Box.new (w.alloc (.cells #[.int .i64 g, .int .i64 b, .int .i64 p, .int .i64 t, .slice A xs.length c, .slice A2 ms.length c2] 25)) 33 #[.int .i64 0, .int .i64 0, .int .i64 0, .int .i64 0, .slice none 0 0, .slice none 0 0]).alloc (.cells #[.int .i64 g, .int .i64 b, .int .i64 p, .int .i64 t, .slice none 0 0, .slice none 0 0] 33)
  have b2 := Box.new ((w.alloc (.cells #[.int .i64 g, .int .i64 b, .int .i64 p, .int .i64 t, .slice A xs.length c, .slice A2 ms.length c2] 25)).alloc (.cells #[.int .i64 0, .int .i64 0, .int .i64 0, .int .i64 0, .slice none 0 0, .slice none 0 0] 33)) 33 #[.int .i64 g, .int .i64 b, .int .i64 p, .int .i64 t, .slice none 0 0, .slice none 0 0]
  have hnx0 := (((Nx.refl w).alloc (.cells #[.int .i64 g, .int .i64 b, .int .i64 p, .int .i64 t, .slice A xs.length c, .slice A2 ms.length c2] 25)).alloc (.cells #[.int .i64 0, .int .i64 0, .int .i64 0, .int .i64 0, .slice none 0 0, .slice none 0 0] 33)).alloc (.cells #[.int .i64 g, .int .i64 b, .int .i64 p, .int .i64 t, .slice none 0 0, .slice none 0 0] 33)
  have hsz : (((w.alloc (.cells #[.int .i64 g, .int .i64 b, .int .i64 p, .int .i64 t, .slice A xs.length c, .slice A2 ms.length c2] 25)).alloc (.cells #[.int .i64 0, .int .i64 0, .int .i64 0, .int .i64 0, .slice none 0 0, .slice none 0 0] 33)).alloc (.cells #[.int .i64 g, .int .i64 b, .int .i64 p, .int .i64 t, .slice none 0 0, .slice none 0 0] 33)).heap.size = w.heap.size + 1 + 1 + 1 := by simp only [World.size_alloc]
  simp only [World.size_alloc] at b1 b2
  generalize (((w.alloc (.cells #[.int .i64 g, .int .i64 b, .int .i64 p, .int .i64 t, .slice A xs.length c, .slice A2 ms.length c2] 25)).alloc (.cells #[.int .i64 0, .int .i64 0, .int .i64 0, .int .i64 0, .slice none 0 0, .slice none 0 0] 33)).alloc (.cells #[.int .i64 g, .int .i64 b, .int .i64 p, .int .i64 t, .slice none 0 0, .slice none 0 0] 33)) = W at *
  have Hsz := Lib.hid hsz
  clear hsz
  refine (toIntSc_c A c B xs _ (h.below hnx0 hB) (by have := Hsz.out; omega) hn).mono ?_
  rintro e w1 ⟨A3, c3, rfl, hc3, hS, hnx1⟩
  have HC3 := Lib.hid hc3
  clear hc3
  have b2' := b2.nx hnx1
  have b0' := b0.nx hnx1
  obtain ⟨_, _, _, _, _, c05⟩ := b0'.d6
  obtain ⟨_, _, _, _, c24, _⟩ := b2'.d6
  have f24 := b2'.frozen 4
  go_wp2_with fail
  have b2s := b2'.set 4 (.slice A3 xs.length c3)
  have b1s0 := (b1.nx hnx1).far (p := ⟨w.heap.size + 1 + 1, 4, none⟩) (by simp) (.slice A3 xs.length c3)
  have hSs := hS.far (p := ⟨w.heap.size + 1 + 1, 4, none⟩) (by have := Hsz.out; simp; omega) (.slice A3 xs.length c3)
  have hnx2 := (hnx0.trans hnx1).setCell (p := ⟨w.heap.size + 1 + 1, 4, none⟩) (by simp; omega) (.slice A3 xs.length c3)
  generalize w1.setCell ⟨w.heap.size + 1 + 1, 4, none⟩ (.slice A3 xs.length c3) = W2 at *
  clear b2' b0' c05 c24 f24 b0 b1 b2 hS hnx1
  refine (toMarkS_c A2 c2 B ms _ (h2.below hnx2 hB) (Nat.le_trans hB hnx2.size) hn2).mono ?_
  rintro e w3 ⟨A4, c4, rfl, hM3, hnx3'⟩
  have b2t := b2s.nx hnx3'
  simp only [List.setIfInBounds_toArray, List.set_cons_zero, List.set_cons_succ] at b2t
  have b1s := b1s0.nx hnx3'
  have hS3 := hSs.nx hnx3'
  have hnx3 := hnx2.trans hnx3'
  obtain ⟨d0, d1, d2, d3, d4, d5⟩ := b2t.d6
  obtain ⟨e0, e1, e2, e3, e4, e5⟩ := b1s.d6
  have f25 := b2t.frozen 5
  have f10 := b1s.frozen 0
  have f11 := b1s.frozen 1
  have f12 := b1s.frozen 2
  have f13 := b1s.frozen 3
  have f14 := b1s.frozen 4
  have f15 := b1s.frozen 5
  go_wp2
  have hz := Hsz.out
  have hz2 := b2s.lt
  have q := ((((((b1s.far (p := ⟨w.heap.size + 1 + 1, 5, none⟩) (by simp) (.slice A4 ms.length c4)).set 0 (.int .i64 g)).set 1 (.int .i64 b)).set 2 (.int .i64 p)).set 3 (.int .i64 t)).set 4 (.slice A3 xs.length c3)).set 5 (.slice A4 ms.length c4)
  have hSf := (((((((hS3.far (p := ⟨w.heap.size + 1 + 1, 5, none⟩) (by simp; omega) (.slice A4 ms.length c4)).far (p := ⟨w.heap.size + 1, 0, none⟩) (by simp; omega) (.int .i64 g)).far (p := ⟨w.heap.size + 1, 1, none⟩) (by simp; omega) (.int .i64 b)).far (p := ⟨w.heap.size + 1, 2, none⟩) (by simp; omega) (.int .i64 p)).far (p := ⟨w.heap.size + 1, 3, none⟩) (by simp; omega) (.int .i64 t)).far (p := ⟨w.heap.size + 1, 4, none⟩) (by simp; omega) (.slice A3 xs.length c3)).far (p := ⟨w.heap.size + 1, 5, none⟩) (by simp; omega) (.slice A4 ms.length c4))
  have hMf := (((((((hM3.far (p := ⟨w.heap.size + 1 + 1, 5, none⟩) (by simp; omega) (.slice A4 ms.length c4)).far (p := ⟨w.heap.size + 1, 0, none⟩) (by simp; omega) (.int .i64 g)).far (p := ⟨w.heap.size + 1, 1, none⟩) (by simp; omega) (.int .i64 b)).far (p := ⟨w.heap.size + 1, 2, none⟩) (by simp; omega) (.int .i64 p)).far (p := ⟨w.heap.size + 1, 3, none⟩) (by simp; omega) (.int .i64 t)).far (p := ⟨w.heap.size + 1, 4, none⟩) (by simp; omega) (.slice A3 xs.length c3)).far (p := ⟨w.heap.size + 1, 5, none⟩) (by simp; omega) (.slice A4 ms.length c4))
  have hnf := (((((((hnx3.setCell (p := ⟨w.heap.size + 1 + 1, 5, none⟩) (by simp; try omega) (.slice A4 ms.length c4)).setCell (p := ⟨w.heap.size + 1, 0, none⟩) (by simp; try omega) (.int .i64 g)).setCell (p := ⟨w.heap.size + 1, 1, none⟩) (by simp; try omega) (.int .i64 b)).setCell (p := ⟨w.heap.size + 1, 2, none⟩) (by simp; try omega) (.int .i64 p)).setCell (p := ⟨w.heap.size + 1, 3, none⟩) (by simp; try omega) (.int .i64 t)).setCell (p := ⟨w.heap.size + 1, 4, none⟩) (by simp; try omega) (.slice A3 xs.length c3)).setCell (p := ⟨w.heap.size + 1, 5, none⟩) (by simp; try omega) (.slice A4 ms.length c4))
  generalize (((((((w3.setCell ⟨w.heap.size + 1 + 1, 5, none⟩ (.slice A4 ms.length c4)).setCell ⟨w.heap.size + 1, 0, none⟩ (.int .i64 g)).setCell ⟨w.heap.size + 1, 1, none⟩ (.int .i64 b)).setCell ⟨w.heap.size + 1, 2, none⟩ (.int .i64 p)).setCell ⟨w.heap.size + 1, 3, none⟩ (.int .i64 t)).setCell ⟨w.heap.size + 1, 4, none⟩ (.slice A3 xs.length c3)).setCell ⟨w.heap.size + 1, 5, none⟩ (.slice A4 ms.length c4)) = Wf at *
  have g0 := q.cell 0
  have g1 := q.cell 1
  have g2 := q.cell 2
  have g3 := q.cell 3
  have g4 := q.cell 4
  have g5 := q.cell 5
  simp at g0 g1 g2 g3 g4 g5
  exact bodyPost_ret (v := .agg #[.int .i64 g, .int .i64 b, .int .i64 p, .int .i64 t, .slice A3 xs.length c3, .slice A4 ms.length c4]) (by simp [results, Try.results40, go_sem, g0, g1, g2, g3, g4, g5]) rfl ⟨A3, c3, A4, c4, rfl, HC3.out, hSf.low (by omega), hMf.low (by have := hnx2.size; omega), hnf⟩

set_option maxHeartbeats 2000000 in
theorem eqSuper_c (g b p t : Int) (A A2 A3 A4 : Option Addr) (c c2 c3 c4 B : Nat) (xs : List Int) (ms : List Mrk) (w : World) (h : Ins w B A xs) (h2 : Mks w B A2 ms) (h3 : Ins w B A3 xs) (h4 : Mks w B A4 ms) (hB : B ≤ w.heap.size) (hn : xs.length ≤ 1048576) (hn2 : ms.length ≤ 1048576) :
    Calls Try.prog 42 #[.agg #[.int .i64 g, .int .i64 b, .int .i64 p, .int .i64 t, .slice A xs.length c, .slice A2 ms.length c2], .agg #[.int .i64 g, .int .i64 b, .int .i64 p, .int .i64 t, .slice A3 xs.length c3, .slice A4 ms.length c4]] w fun e w' => e = .returned (.bool true) ∧ Nx w w' := by
  have b0 := (Box.new w 33 #[.int .i64 g, .int .i64 b, .int .i64 p, .int .i64 t, .slice A xs.length c, .slice A2 ms.length c2]).alloc (.cells #[.int .i64 g, .int .i64 b, .int .i64 p, .int .i64 t, .slice A3 xs.length c3, .slice A4 ms.length c4] 33)
  have b1 := Box.new (w.alloc (.cells #[.int .i64 g, .int .i64 b, .int .i64 p, .int .i64 t, .slice A xs.length c, .slice A2 ms.length c2] 33)) 33 #[.int .i64 g, .int .i64 b, .int .i64 p, .int .i64 t, .slice A3 xs.length c3, .slice A4 ms.length c4]
  have hx0 := ((Nx.refl w).alloc (.cells #[.int .i64 g, .int .i64 b, .int .i64 p, .int .i64 t, .slice A xs.length c, .slice A2 ms.length c2] 33)).alloc (.cells #[.int .i64 g, .int .i64 b, .int .i64 p, .int .i64 t, .slice A3 xs.length c3, .slice A4 ms.length c4] 33)
  simp only [World.size_alloc] at b1
  go_enter Try.func42, Try.ntmps42
  go_wp2_with fail
  generalize (w.alloc (.cells #[.int .i64 g, .int .i64 b, .int .i64 p, .int .i64 t, .slice A xs.length c, .slice A2 ms.length c2] 33)).alloc (.cells #[.int .i64 g, .int .i64 b, .int .i64 p, .int .i64 t, .slice A3 xs.length c3, .slice A4 ms.length c4] 33) = W at *
  refine (eqIntS_c A A3 c c3 B xs _ (h.below hx0 hB) (h3.below hx0 hB) (Nat.le_trans hB hx0.size) hn).mono ?_
  rintro e w1 ⟨rfl, hnx1⟩
  obtain ⟨_, _, _, _, _, c05⟩ := (b0.nx hnx1).d6
  obtain ⟨_, _, _, _, _, c15⟩ := (b1.nx hnx1).d6
  have hx1 := hx0.trans hnx1
  go_wp2_with fail
  refine (eqMarkS_c A2 A4 c2 c4 B ms _ (h2.below hx1 hB) (h4.below hx1 hB) (Nat.le_trans hB hx1.size) hn2).mono ?_
  rintro e w2 ⟨rfl, hnx2⟩
  go_wp2
  go_ret
  exact ⟨rfl, hx1.trans hnx2⟩

section
variable {H : Type} {enc : TypeId × Value → H} {w : World} {base : Nat} {spare : Nat → Bool} {held : Bool}
theorem array6 {α : Type} {cs : Array α} (h : cs.size = 6) : ∃ c0 c1 c2 c3 c4 c5, cs = #[c0, c1, c2, c3, c4, c5] := by
  obtain ⟨l⟩ := cs
  match l, h with
  | [c0, c1, c2, c3, c4, c5], _ => exact ⟨c0, c1, c2, c3, c4, c5, rfl⟩
theorem trod_ints_ {fuel : Nat} {v : Value} {x : DataW H × List MemPlace} {A : Option Addr} {n c : Nat} (hv : v = .slice A n c) (h : DataW.trod enc Try.prog w base spare held fuel 22 [v] = some x) :
    ∃ (xs : List Int), n = xs.length ∧ Ins w w.heap.size A xs ∧ xs.length ≤ 2 ^ 63 - 1 := by
  subst hv
  rcases open_slice Try.underlying22 h with ⟨hcs, _⟩ | ⟨a, len, cap, m, n', D, Pl, hcs, _, hl, hm, hmm, _, hi⟩
  · simp at hcs
    obtain ⟨rfl, rfl, rfl⟩ := hcs
    exact ⟨[], rfl, fun hn => absurd hn (by simp), by simp⟩
  · simp at hcs
    obtain ⟨rfl, rfl, rfl⟩ := hcs
    have hle : n ≤ m := by rw [hmm]; split <;> omega
    unfold maxLen at hm
    have key : ∀ i, ∃ q : Int, i < m → w.cell? (a.add i) = some (.int .i64 q) := by
      intro i
      by_cases him : i < m
      · obtain ⟨cs', hc, ht⟩ := hi i him
        rw [ci_, Nat.mul_one] at hc
        obtain ⟨_, hcl, hat⟩ := World.cells?_some hc
        obtain ⟨q, e, _, hw⟩ := DataW.trod_int (k := .i64) Try.underlying3 ht
        subst e
        refine ⟨q, fun _ => ?_⟩
        have := hat 0 (by omega)
        simpa [Addr.add] using this
      · exact ⟨0, fun h => absurd h him⟩
    obtain ⟨g, hg⟩ := Classical.skolem.1 key
    have hget : ∀ k, k < n → ((List.range n).map g).getD k 0 = g k := by
      intro k hk
      rw [List.getD_eq_getElem?_getD, List.getElem?_map, List.getElem?_range hk]; rfl
    have hlen : ((List.range n).map g).length = n := by simp
    refine ⟨(List.range n).map g, hlen.symm, fun hn => ?_, by simp; omega⟩
    rw [hlen] at hn
    obtain ⟨b, off, rfl, hb⟩ := addr_plain_i (hg 0 (by omega))
    refine ⟨b, off, rfl, hb, fun i hi => ?_⟩
    rw [hlen] at hi
    have h1 := hg i (by omega)
    rw [addr_add_i] at h1
    rw [h1]
    unfold inAt
    rw [hget i hi]
theorem trod_struct6 {P : Program} {t : TypeId} {f0 f1 f2 f3 f4 f5 : Field} {fuel : Nat} {cs : List Value} {x : DataW H × List MemPlace} (ht : P.underlying t = some (.struct #[f0, f1, f2, f3, f4, f5])) (h : DataW.trod enc P w base spare held fuel t cs = some x) :
    ∃ y0 y1 y2 y3 y4 y5 n, DataW.trod enc P w base spare held n f0.type ((cs.drop f0.offset).take (P.cellsOf f0.type)) = some y0 ∧
      DataW.trod enc P w base spare held n f1.type ((cs.drop f1.offset).take (P.cellsOf f1.type)) = some y1 ∧ DataW.trod enc P w base spare held n f2.type ((cs.drop f2.offset).take (P.cellsOf f2.type)) = some y2 ∧
      DataW.trod enc P w base spare held n f3.type ((cs.drop f3.offset).take (P.cellsOf f3.type)) = some y3 ∧ DataW.trod enc P w base spare held n f4.type ((cs.drop f4.offset).take (P.cellsOf f4.type)) = some y4 ∧
      DataW.trod enc P w base spare held n f5.type ((cs.drop f5.offset).take (P.cellsOf f5.type)) = some y5 := by
  obtain ⟨xs, n, _, rfl, hl, hlen, hf⟩ := DataW.trod_struct ht h
  match xs, hlen with
  | [y0, y1, y2, y3, y4, y5], _ => exact ⟨y0, y1, y2, y3, y4, y5, n, by simpa using hf 0 f0 rfl, by simpa using hf 1 f1 rfl, by simpa using hf 2 f2 rfl, by simpa using hf 3 f3 rfl, by simpa using hf 4 f4 rfl, by simpa using hf 5 f5 rfl⟩
theorem open_agg6 {P : Program} {r : Reach} {b0 : Nat} {t : TypeId} {f0 f1 f2 f3 f4 f5 : Field} {v : Value} {d : DataW H} {p : List MemPlace} (hs : P.underlying t = some (.struct #[f0, f1, f2, f3, f4, f5])) (hone : oneCellFields P #[f0, f1, f2, f3, f4, f5] = true) (hC : P.cellsOf t = 6)
    (hv : Value.okWide P w r b0 t v) (h : DataW.Trod enc P w base spare held t v d p) :
    ∃ (v0 v1 v2 v3 v4 v5 : Value) (y0 y1 y2 y3 y4 y5 : DataW H × List MemPlace) (n : Nat), v = .agg #[v0, v1, v2, v3, v4, v5] ∧
      DataW.trod enc P w base spare held n f0.type [v0] = some y0 ∧ DataW.trod enc P w base spare held n f1.type [v1] = some y1 ∧ DataW.trod enc P w base spare held n f2.type [v2] = some y2 ∧ DataW.trod enc P w base spare held n f3.type [v3] = some y3 ∧
      DataW.trod enc P w base spare held n f4.type [v4] = some y4 ∧ DataW.trod enc P w base spare held n f5.type [v5] = some y5 := by
  obtain ⟨cs, rfl, hsz⟩ := okWide_struct hs hv
  obtain ⟨c0, c1, c2, c3, c4, c5, rfl⟩ := array6 (hsz.trans hC)
  obtain ⟨fuel, hf⟩ := h
  obtain ⟨y0, y1, y2, y3, y4, y5, n, h0, h1, h2, h3, h4, h5⟩ := trod_struct6 hs hf
  obtain ⟨o0, k0⟩ := hone_of hone 0 f0 rfl
  obtain ⟨o1, k1⟩ := hone_of hone 1 f1 rfl
  obtain ⟨o2, k2⟩ := hone_of hone 2 f2 rfl
  obtain ⟨o3, k3⟩ := hone_of hone 3 f3 rfl
  obtain ⟨o4, k4⟩ := hone_of hone 4 f4 rfl
  obtain ⟨o5, k5⟩ := hone_of hone 5 f5 rfl
  exact ⟨c0, c1, c2, c3, c4, c5, y0, y1, y2, y3, y4, y5, n, rfl, by simpa [Value.cells, o0, k0] using h0, by simpa [Value.cells, o1, k1] using h1, by simpa [Value.cells, o2, k2] using h2, by simpa [Value.cells, o3, k3] using h3, by simpa [Value.cells, o4, k4] using h4, by simpa [Value.cells, o5, k5] using h5⟩
theorem open_super {r : Reach} {b0 : Nat} {v : Value} {d : DataW H} {pl : List MemPlace} (hv : Value.okWide Try.prog w r b0 25 v) (h : DataW.Trod enc Try.prog w base spare held 25 v d pl) :
    ∃ (g b p t : Int) (A : Option Addr) (c : Nat) (xs : List Int) (A2 : Option Addr) (c2 : Nat) (ms : List Mrk), v = .agg #[.int .i64 g, .int .i64 b, .int .i64 p, .int .i64 t, .slice A xs.length c, .slice A2 ms.length c2] ∧ Ins w w.heap.size A xs ∧ Mks w w.heap.size A2 ms ∧ AllM ms ∧ xs.length ≤ 2 ^ 63 - 1 ∧ ms.length ≤ 2 ^ 63 - 1 := by
  obtain ⟨v0, v1, v2, v3, v4, v5, y0, y1, y2, y3, y4, y5, n, rfl, t0, t1, t2, t3, t4, t5⟩ := open_agg6 Try.underlying25 (by kernel_rfl) cLU hv h
  obtain ⟨q0, rfl, _⟩ := one_int t0
  obtain ⟨q1, rfl, _⟩ := one_int t1
  obtain ⟨q2, rfl, _⟩ := one_int t2
  obtain ⟨q3, rfl, _⟩ := one_int t3
  obtain ⟨A, l, c, e4⟩ := slice_form Try.underlying22 t4
  have e4' : v4 = .slice A l c := by simpa using e4
  obtain ⟨xs, rfl, hI, hn⟩ := trod_ints_ e4' t4
  subst e4'
  obtain ⟨A2, c2, ms, rfl, hM, hm, hn2⟩ := open_marks_ t5
  exact ⟨q0, q1, q2, q3, A, c, xs, A2, c2, ms, rfl, hI, hM, hm, hn, hn2⟩
end

/-! What a super is. -/
def letB (s : ByteArray) (k : Nat) : Bool := decide (97 ≤ (s.data.toList.getD k 0).toNat) && decide ((s.data.toList.getD k 0).toNat ≤ 122)
/-- A mark's name. -/
def nmB (s : ByteArray) : Bool := inB 1 6 s.size && (List.range s.size).all (letB s)
def LetTo (s : ByteArray) (k : Nat) : Prop := ∀ j, j < k → letB s j = true
theorem LetTo.zero (s : ByteArray) : LetTo s 0 := fun j h => absurd h (by omega)
theorem LetTo.succ {s : ByteArray} {k : Nat} (h : LetTo s k) (hk : letB s k = true) : LetTo s (k + 1) := fun j hj => by
  rcases Nat.lt_or_ge j k with hlt | hge
  · exact h j hlt
  · obtain rfl : j = k := by omega
    exact hk
theorem letB_at {s : ByteArray} {k : Nat} (hk : k < s.size) : letB s k = (decide (97 ≤ s[k].toNat) && decide (s[k].toNat ≤ 122)) := by
  unfold letB
  rw [List.getD_eq_getElem?_getD, List.getElem?_eq_getElem (by simpa using hk)]; rfl
theorem nmB_all {s : ByteArray} (h : LetTo s s.size) : (List.range s.size).all (letB s) = true := List.all_eq_true.2 fun j hj => h j (by simpa using hj)
theorem nmB_no {s : ByteArray} {k : Nat} (hk : k < s.size) (h : letB s k = false) : nmB s = false := by
  unfold nmB
  rw [show (List.range s.size).all (letB s) = false from List.all_eq_false.2 ⟨k, by simpa using hk, by simp [h]⟩]; simp
theorem nmB_size {s : ByteArray} (h : inB 1 6 s.size = false) : nmB s = false := by unfold nmB; rw [h]; rfl
theorem nmB_mk {s : ByteArray} (h : inB 1 6 s.size = true) (h2 : LetTo s s.size) : nmB s = true := by unfold nmB; rw [h, nmB_all h2]; rfl
set_option maxHeartbeats 1000000 in
theorem isMarkName_c (s : ByteArray) (w : World) (hs : s.size ≤ 2 ^ 63 - 1) : Calls Try.prog 161 #[.string s] w fun e w' => e = .returned (.bool (nmB s)) ∧ w = w' := by
  by_cases h0 : s.size = 0
  · have hd : ((s.size : Int) == 0) = true := by rw [beq_iff_eq]; omega
    have HR := Lib.hid (nmB_size (s := s) (inB_no (by omega))).symm
    go_enter Try.func161, Try.ntmps161
    go_wp2
    go_ret
    exact ⟨ret_bool HR.out, rfl⟩
  have hd : ((s.size : Int) == 0) = false := by rw [beq_eq_false_iff_ne]; omega
  by_cases h6 : 6 < s.size
  · have hd6 : decide (6 < (s.size : Int)) = true := by simp; omega
    have HR := Lib.hid (nmB_size (s := s) (inB_no (by omega))).symm
    go_enter Try.func161, Try.ntmps161
    go_wp2
    go_ret
    exact ⟨ret_bool HR.out, rfl⟩
  have hd6 : decide (6 < (s.size : Int)) = false := by simp; omega
  have HS := Lib.hid (inB_mk (lo := 1) (hi := 6) (a := s.size) (by omega) (by omega))
  go_enter Try.func161, Try.ntmps161
  go_wp2
  go_loop [3] (fun i => ∃ k : Nat, k ≤ s.size ∧ i = .int .i64 k ∧ LetTo s k) (fun i => s.size - (intOf i).toNat)
  case atStart => exact ⟨0, Nat.zero_le _, rfl, LetTo.zero _⟩
  case round =>
    obtain ⟨k, hk, rfl, hto⟩ := hrel
    by_cases hlt : k < s.size
    · have HL := Lib.hid (letB_at hlt)
      have hc1 : (s[k].toNat : Int) ≤ 255 := by have := s[k].toNat_lt; omega
      by_cases ha : s[k].toNat < 97
      · have hda : decide ((s[k].toNat : Int) < 97) = true := by simp; omega
        have HR := Lib.hid (nmB_no hlt (by rw [HL.out]; simp; omega)).symm
        go_wp2
        go_ret
        exact ⟨ret_bool HR.out, rfl⟩
      have hda : decide ((s[k].toNat : Int) < 97) = false := by simp; omega
      by_cases hz : 122 < s[k].toNat
      · have hdz : decide (122 < (s[k].toNat : Int)) = true := by simp; omega
        have HR := Lib.hid (nmB_no hlt (by rw [HL.out]; simp; omega)).symm
        go_wp2
        go_ret
        exact ⟨ret_bool HR.out, rfl⟩
      have hdz : decide (122 < (s[k].toNat : Int)) = false := by simp; omega
      go_wp2
      go_round
      case rel => exact ⟨k + 1, by omega, by go_num, hto.succ (by rw [HL.out]; simp; omega)⟩
      case measure => simp [intOf]; omega
    · obtain rfl : k = s.size := by omega
      have HR := Lib.hid (nmB_mk HS.out hto).symm
      go_wp2
      go_ret
      exact ⟨ret_bool HR.out, rfl⟩
set_option maxHeartbeats 1000000 in
theorem l04Mark_c (s : ByteArray) (a : Int) (w : World) (hs : s.size ≤ 2 ^ 63 - 1) : Calls Try.prog 130 #[.agg #[.string s, .int .i64 a]] w fun e w' => e = .returned (.bool (nmB s && inB 0 999999 a)) ∧ Nx w w' := by
  cases x1 : inB 1 6 s.size with
  | false =>
    have H1 := Lib.hid x1
    clear x1
    have HR := Lib.hid (show false = (nmB s && inB 0 999999 a) by rw [nmB_size H1.out]; rfl)
    go_enter Try.func130, Try.ntmps130
    go_wp2_with (go_at_call 122; refine (l01In_c _ _ _ _).mono ?_; rintro e w' ⟨rfl, rfl⟩; rw [H1.out])
    go_ret
    exact ⟨ret_bool HR.out, (Nx.refl _).alloc _⟩
  | true =>
  have H1 := Lib.hid x1
  clear x1
  cases x2 : inB 0 999999 a with
  | false =>
    have H2 := Lib.hid x2
    clear x2
    have HR := Lib.hid (show false = (nmB s && false) by simp)
    go_enter Try.func130, Try.ntmps130
    go_wp2_with (go_at_call 122; refine (l01In_c _ _ _ _).mono ?_; rintro e w' ⟨rfl, rfl⟩; first | rw [H1.out] | rw [H2.out])
    go_ret
    exact ⟨ret_bool HR.out, (Nx.refl _).alloc _⟩
  | true =>
  have H2 := Lib.hid x2
  clear x2
  rw [Bool.and_true]
  go_enter Try.func130, Try.ntmps130
  go_wp2_with (go_at_call 122; refine (l01In_c _ _ _ _).mono ?_; rintro e w' ⟨rfl, rfl⟩; first | rw [H1.out] | rw [H2.out])
  have c0 := (Box.new w 87 #[.string s, .int .i64 a]).c0
  have hx0 := (Nx.refl w).alloc (.cells #[.string s, .int .i64 a] 87)
  generalize w.alloc (.cells #[.string s, .int .i64 a] 87) = W at *
  go_loop [3] (fun i => ∃ k : Nat, k ≤ s.size ∧ i = .int .i64 k ∧ LetTo s k) (fun i => s.size - (intOf i).toNat)
  case atStart => exact ⟨0, Nat.zero_le _, rfl, LetTo.zero _⟩
  case round =>
    obtain ⟨k, hk, rfl, hto⟩ := hrel
    by_cases hlt : k < s.size
    · have HL := Lib.hid (letB_at hlt)
      have hc1 : (s[k].toNat : Int) ≤ 255 := by have := s[k].toNat_lt; omega
      by_cases ha : s[k].toNat < 97
      · have hda : decide ((s[k].toNat : Int) < 97) = true := by simp; omega
        have HR := Lib.hid (nmB_no hlt (by rw [HL.out]; simp; omega)).symm
        go_wp2
        go_ret
        exact ⟨ret_bool HR.out, hx0⟩
      have hda : decide ((s[k].toNat : Int) < 97) = false := by simp; omega
      by_cases hz : 122 < s[k].toNat
      · have hdz : decide (122 < (s[k].toNat : Int)) = true := by simp; omega
        have HR := Lib.hid (nmB_no hlt (by rw [HL.out]; simp; omega)).symm
        go_wp2
        go_ret
        exact ⟨ret_bool HR.out, hx0⟩
      have hdz : decide (122 < (s[k].toNat : Int)) = false := by simp; omega
      go_wp2
      go_round
      case rel => exact ⟨k + 1, by omega, by go_num, hto.succ (by rw [HL.out]; simp; omega)⟩
      case measure => simp [intOf]; omega
    · obtain rfl : k = s.size := by omega
      have HR := Lib.hid (nmB_mk H1.out hto).symm
      go_wp2
      go_ret
      exact ⟨ret_bool HR.out, hx0⟩

/-! A number that is looked up in the first n of a list. -/
def hasB (xs : List Int) (n : Nat) (x : Int) : Bool := (xs.take n).contains x
def NotTo (xs : List Int) (k : Nat) (x : Int) : Prop := ∀ j, j < k → xs.getD j 0 ≠ x
theorem NotTo.zero (xs : List Int) (x : Int) : NotTo xs 0 x := fun j h => absurd h (by omega)
theorem NotTo.succ {xs : List Int} {k : Nat} {x : Int} (h : NotTo xs k x) (hk : xs.getD k 0 ≠ x) : NotTo xs (k + 1) x := fun j hj => by
  rcases Nat.lt_or_ge j k with hlt | hge
  · exact h j hlt
  · obtain rfl : j = k := by omega
    exact hk
theorem hasB_yes {xs : List Int} {n k : Nat} {x : Int} (hk : k < n) (hl : k < xs.length) (h : xs.getD k 0 = x) : hasB xs n x = true := by
  unfold hasB
  rw [List.contains_iff_mem]
  rw [List.getD_eq_getElem?_getD, List.getElem?_eq_getElem hl] at h
  rw [List.mem_take_iff_getElem]
  exact ⟨k, by omega, h⟩
theorem hasB_no {xs : List Int} {n : Nat} {x : Int} (h : NotTo xs n x) : hasB xs n x = false := by
  unfold hasB
  rw [Bool.eq_false_iff]
  intro hc
  rw [List.contains_iff_mem, List.mem_take_iff_getElem] at hc
  obtain ⟨k, hk, e⟩ := hc
  have hk2 : k < xs.length := by omega
  refine h k (by omega) ?_
  rw [List.getD_eq_getElem?_getD, List.getElem?_eq_getElem hk2]; exact e
set_option maxHeartbeats 1000000 in
theorem l04In_c (A : Option Addr) (n c B : Nat) (xs : List Int) (x : Int) (w : World) (h : Ins w B A xs) (hnl : n ≤ xs.length) (hn : xs.length ≤ 1048576) :
    Calls Try.prog 129 #[.slice A n c, .int .i64 x] w fun e w' => e = .returned (.bool (hasB xs n x)) ∧ w = w' := by
  go_enter Try.func129, Try.ntmps129
  go_wp2
  go_loop [5] (fun i => ∃ k : Nat, k ≤ n ∧ i = .int .i64 k ∧ NotTo xs k x) (fun i => n - (intOf i).toNat)
  case atStart => exact ⟨0, Nat.zero_le _, rfl, NotTo.zero _ _⟩
  case round =>
    obtain ⟨k, hk, rfl, hto⟩ := hrel
    by_cases hlt : k < n
    · obtain ⟨b, off, rfl, hb, hc⟩ := h.at_ (k := k) (by omega)
      obtain ⟨y, Hy⟩ : ∃ y, Hid (xs.getD k 0 = y) := ⟨_, rfl⟩
      rw [Hy.out] at hc
      by_cases he : y = x
      · have hd : (y == x) = true := by simp [he]
        have HR := Lib.hid (hasB_yes hlt (by omega) (Hy.out.trans he)).symm
        clear he
        go_wp2
        go_ret
        exact ⟨ret_bool HR.out, rfl⟩
      · have hd : (y == x) = false := by simp [he]
        have HT := Lib.hid (hto.succ (by rw [Hy.out]; exact he))
        clear he
        go_wp2
        go_round
        case rel => exact ⟨k + 1, by omega, by go_num, HT.out⟩
        case measure => simp [intOf]; omega
    · obtain rfl : k = n := by omega
      have HR := Lib.hid (hasB_no hto).symm
      go_wp2
      go_ret
      exact ⟨ret_bool HR.out, rfl⟩
set_option maxHeartbeats 1000000 in
theorem index_c (A : Option Addr) (n c B : Nat) (xs : List Int) (x : Int) (w : World) (h : Ins w B A xs) (hnl : n ≤ xs.length) (hn : xs.length ≤ 1048576) :
    Calls Try.prog 158 #[.slice A n c, .int .i64 x] w fun e w' => (∃ k : Int, e = .returned (.int .i64 k) ∧ decide (0 ≤ k) = hasB xs n x ∧ -1 ≤ k ∧ k ≤ 1048576) ∧ w = w' := by
  go_enter Try.func158, Try.ntmps158
  go_wp2
  go_loop [8] (fun i => ∃ k : Nat, k ≤ n ∧ i = .int .i64 k ∧ NotTo xs k x) (fun i => n - (intOf i).toNat)
  case atStart => exact ⟨0, Nat.zero_le _, rfl, NotTo.zero _ _⟩
  case round =>
    obtain ⟨k, hk, rfl, hto⟩ := hrel
    by_cases hlt : k < n
    · obtain ⟨b, off, rfl, hb, hc⟩ := h.at_ (k := k) (by omega)
      obtain ⟨y, Hy⟩ : ∃ y, Hid (xs.getD k 0 = y) := ⟨_, rfl⟩
      rw [Hy.out] at hc
      by_cases he : y = x
      · have hd : (x == y) = true := by simp [he]
        have HR := Lib.hid (hasB_yes hlt (by omega) (Hy.out.trans he)).symm
        clear he
        go_wp2
        go_ret
        exact ⟨⟨_, rfl, by rw [← HR.out]; simp, by omega, by omega⟩, rfl⟩
      · have hd : (x == y) = false := by rw [beq_eq_false_iff_ne]; exact fun h => he h.symm
        have HT := Lib.hid (hto.succ (by rw [Hy.out]; exact he))
        clear he
        go_wp2
        go_round
        case rel => exact ⟨k + 1, by omega, by go_num, HT.out⟩
        case measure => simp [intOf]; omega
    · obtain rfl : k = n := by omega
      have HR := Lib.hid (hasB_no hto).symm
      go_wp2
      go_ret
      exact ⟨⟨_, rfl, by rw [← HR.out]; decide, by omega, by omega⟩, rfl⟩
set_option maxHeartbeats 1000000 in
theorem contains_c (A : Option Addr) (n c B : Nat) (xs : List Int) (x : Int) (w : World) (h : Ins w B A xs) (hnl : n ≤ xs.length) (hn : xs.length ≤ 1048576) :
    Calls Try.prog 135 #[.slice A n c, .int .i64 x] w fun e w' => e = .returned (.bool (hasB xs n x)) ∧ w = w' := by
  go_enter Try.func135, Try.ntmps135
  go_wp2_with fail
  refine (index_c A n c B xs x _ h hnl hn).mono ?_
  rintro e w' ⟨⟨k, rfl, hk, h1, h2⟩, rfl⟩
  have HK := Lib.hid hk
  clear hk
  go_wp2
  go_ret
  exact ⟨ret_bool HK.out, rfl⟩
end Go.Proofs.Ytihpadelfpogmaa
