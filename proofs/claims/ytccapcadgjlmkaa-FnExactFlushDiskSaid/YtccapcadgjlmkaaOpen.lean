/-
  A disk that comes in, opened: its texts and its writes as lists, and the cells that hold them.
  Conditions: the disk can be read.
-/
import Derived.Test.YtccapcadgjlmkaaBase
import Derived.Test.YtccapcadgjlmkaaSz
import Derived.Lib.SmallJoins
import Derived.SliceStrings
import Derived.Deep.Slices
import Derived.Deep.Fields
import Derived.ChangeSame
namespace Go.Proofs.Ytccapcadgjlmkaa
set_option linter.unusedVariables false
set_option maxRecDepth 100000
open Go.Joins Go.ChangeShapes Go.WideShapes Go.RowKit Go.Deep

theorem c3_ : Try.prog.cellsOf 3 = 1 := by kernel_rfl
theorem c9_ : Try.prog.cellsOf 9 = 1 := by kernel_rfl
theorem cLD : Try.prog.cellsOf 55 = 2 := by kernel_rfl
theorem cLW : Try.prog.cellsOf 107 = 2 := by kernel_rfl

theorem addr_plain {w : World} {a : Addr} {v : Value} (h : w.cell? (a.add 0) = some v) : ∃ b off, a = ⟨b, off, none⟩ ∧ b < w.heap.size := by
  have h' : w.cell? a = some v := by simpa [Addr.add] using h
  have hs := World.cell?_spot h'
  obtain ⟨b, off, sp⟩ := a
  simp only at hs
  subst hs
  exact ⟨b, off, rfl, World.block_lt_of_cell? w _ h'⟩
theorem addr_add (b off i : Nat) : (Addr.mk b off none).add i = ⟨b, off + i, none⟩ := by
  unfold Addr.add
  by_cases h : i = 0
  · subst h; simp
  · simp [h]

section
variable {H : Type} {enc : TypeId × Value → H} {w : World} {base : Nat} {spare : Nat → Bool} {held : Bool}
theorem open_strs_ {fuel : Nat} {v : Value} {x : DataW H × List MemPlace} (h : DataW.trod enc Try.prog w base spare held fuel 23 [v] = some x) :
    ∃ (A : Option Addr) (n c : Nat) (ss : List ByteArray), v = .slice A n c ∧ Strs w w.heap.size A n ss ∧ AllS ss ∧ n ≤ 2 ^ 63 - 1 := by
  rcases open_strings Try.underlying23 Try.underlying9 c9_ h with ⟨hcs, _⟩ | ⟨a, len, cap, ss, hcs, _, hl, hm, hlen, _, hcell, hws⟩
  · refine ⟨none, 0, 0, [], by simpa using hcs, ⟨rfl, fun hn => absurd hn (by omega)⟩, fun k => by simp, by omega⟩
  · have hle : len ≤ ss.length := by rw [hlen]; split <;> omega
    unfold maxLen at hm hws
    refine ⟨some a, len, cap, ss.take len, by simpa using hcs, ⟨by simp [hle], fun hn => ?_⟩, fun k => ?_, by omega⟩
    · obtain ⟨b, off, rfl, hb⟩ := addr_plain (hcell 0 (by omega))
      refine ⟨b, off, rfl, hb, fun i hi => ?_⟩
      have := hcell i (by omega)
      rw [addr_add] at this
      dsimp only
      rw [this, List.getD_eq_getElem?_getD, List.getD_eq_getElem?_getD, List.getElem?_take_of_lt hi]
    · rw [List.getD_eq_getElem?_getD]
      by_cases hk : k < (ss.take len).length
      · rw [List.getElem?_eq_getElem hk]
        exact hws _ (List.mem_of_mem_take (List.getElem_mem hk))
      · rw [List.getElem?_eq_none (by omega)]
        simp
theorem open_writes_ {fuel : Nat} {v : Value} {x : DataW H × List MemPlace} (h : DataW.trod enc Try.prog w base spare held fuel 53 [v] = some x) :
    ∃ (A : Option Addr) (n c : Nat) (ws : List (Int × ByteArray)), v = .slice A n c ∧ Wrs w w.heap.size A n ws ∧ AllW ws ∧ n ≤ 2 ^ 63 - 1 := by
  rcases open_slice Try.underlying53 h with ⟨hcs, _⟩ | ⟨a, len, cap, m, n, D, Pl, hcs, _, hl, hm, hmm, _, hi⟩
  · refine ⟨none, 0, 0, [], by simpa using hcs, ⟨rfl, fun hn => absurd hn (by omega)⟩, fun k => by simp, by omega⟩
  · have hle : len ≤ m := by rw [hmm]; split <;> omega
    unfold maxLen at hm
    have key : ∀ i, ∃ p : Int × ByteArray, i < m → w.cell? (a.add (i * 2)) = some (.int .i64 p.1) ∧ w.cell? ((a.add (i * 2)).add 1) = some (.string p.2) ∧ p.2.size ≤ 2 ^ 63 - 1 := by
      intro i
      by_cases him : i < m
      · obtain ⟨cs', hc, ht⟩ := hi i him
        rw [cLW] at hc
        obtain ⟨_, hcl, hat⟩ := World.cells?_some hc
        obtain ⟨y0, y1, k, _, _, t0, t1⟩ := trod_struct2 Try.underlying107 ht
        match cs', hcl with
        | [u0, u1], _ =>
          have e0 : ∃ q, [u0] = [Value.int .i64 q] := by
            obtain ⟨q, e, _, _⟩ := DataW.trod_int (k := .i64) Try.underlying3 t0
            rw [c3_] at e
            exact ⟨q, e⟩
          have e1 : ∃ q, [u1] = [Value.string q] ∧ q.size ≤ maxLen := by
            obtain ⟨q, e, _, hq⟩ := DataW.trod_string Try.underlying9 t1
            rw [c9_] at e
            exact ⟨q, e, hq⟩
          obtain ⟨q0, e0⟩ := e0
          obtain ⟨q1, e1, hq⟩ := e1
          simp only [List.cons.injEq, and_true] at e0 e1
          subst e0 e1
          refine ⟨(q0, q1), fun _ => ⟨?_, hat 1 (by omega), by unfold maxLen at hq; exact hq⟩⟩
          have := hat 0 (by omega)
          simpa [Addr.add] using this
      · exact ⟨(0, ByteArray.empty), fun h => absurd h him⟩
    obtain ⟨g, hg⟩ := Classical.skolem.1 key
    have hget : ∀ k, k < len → ((List.range len).map g).getD k (0, ByteArray.empty) = g k := by
      intro k hk
      rw [List.getD_eq_getElem?_getD, List.getElem?_map, List.getElem?_range hk]; rfl
    refine ⟨some a, len, cap, (List.range len).map g, by simpa using hcs, ⟨by simp, fun hn => ?_⟩, fun k => ?_, by omega⟩
    · have h0 := (hg 0 (by omega)).1
      rw [Nat.zero_mul] at h0
      obtain ⟨b, off, rfl, hb⟩ := addr_plain h0
      refine ⟨b, off, rfl, hb, fun i hi => ?_⟩
      have h1 := (hg (i / 2) (by omega)).1
      have h2 := (hg (i / 2) (by omega)).2.1
      rw [addr_add] at h1 h2
      rw [addr_add] at h2
      dsimp only
      by_cases hp : i % 2 = 0
      · rw [if_pos hp, hget _ (by omega)]
        rw [show off + i = off + i / 2 * 2 by omega]
        exact h1
      · rw [if_neg hp, hget _ (by omega)]
        rw [show off + i = off + i / 2 * 2 + 1 by omega]
        exact h2
    · by_cases hk : k < len
      · rw [hget k hk]; exact (hg k (by omega)).2.2
      · rw [List.getD_eq_getElem?_getD, List.getElem?_eq_none (by simp; omega)]
        simp
theorem open_disk {r : Reach} {b0 : Nat} {v : Value} {d : DataW H} {p : List MemPlace} (hv : Value.okWide Try.prog w r b0 55 v) (h : DataW.Trod enc Try.prog w base spare held 55 v d p) :
    ∃ (A : Option Addr) (n c : Nat) (ss : List ByteArray) (A2 : Option Addr) (n2 c2 : Nat) (ws : List (Int × ByteArray)), v = .agg #[.slice A n c, .slice A2 n2 c2] ∧ Strs w w.heap.size A n ss ∧ Wrs w w.heap.size A2 n2 ws ∧
      AllS ss ∧ AllW ws ∧ n ≤ 2 ^ 63 - 1 ∧ n2 ≤ 2 ^ 63 - 1 := by
  obtain ⟨v0, v1, y0, y1, m, rfl, _, _, t0, t1⟩ := open_agg2 Try.underlying55 (by kernel_rfl) cLD hv h
  obtain ⟨A, n, c, ss, rfl, hS, hm, hn⟩ := open_strs_ t0
  obtain ⟨A2, n2, c2, ws, rfl, hW, hm2, hn2⟩ := open_writes_ t1
  exact ⟨A, n, c, ss, A2, n2, c2, ws, rfl, hS, hW, hm, hm2, hn, hn2⟩
end
end Go.Proofs.Ytccapcadgjlmkaa
