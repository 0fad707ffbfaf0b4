/-
  A list of segments that comes in, opened.
  Conditions: none.
-/
import Derived.Test.YtihpadelfpogmaaSgl
import Derived.Test.YtihpadelfpogmaaOpi
import Derived.Lib.SmallJoins
namespace Go.Proofs.Ytihpadelfpogmaa
set_option linter.unusedVariables false
set_option maxRecDepth 100000
open Go.Joins Go.ChangeShapes Go.WideShapes Go.RowKit Go.Deep
section
variable {H : Type} {enc : TypeId × Value → H} {w : World} {base : Nat} {spare : Nat → Bool} {held : Bool}
set_option maxRecDepth 100000 in
theorem open_segs_ {fuel : Nat} {v : Value} {x : DataW H × List MemPlace} (h : DataW.trod enc Try.prog w base spare held fuel 26 [v] = some x) :
    ∃ (A : Option Addr) (c : Nat) (gs : List SgR), v = .slice A gs.length c ∧ Sgs w w.heap.size A gs ∧ gs.length ≤ 2 ^ 63 - 1 ∧ ∀ k, k < gs.length → (gs.getD k sgZ).cs.length ≤ 2 ^ 63 - 1 := by
  rcases open_slice Try.underlying26 h with ⟨hcs, _⟩ | ⟨a, len, cap, m, n, D, Pl, hcs, _, hl, hm, hmm, _, hi⟩
  · exact ⟨none, 0, [], by simpa using hcs, ⟨fun hn => absurd hn (by simp), fun k hk => absurd hk (by simp)⟩, by simp, fun k hk => absurd hk (by simp)⟩
  · have hle : len ≤ m := by rw [hmm]; split <;> omega
    unfold maxLen at hm
    have key : ∀ i, ∃ p : SgR, i < m → w.cell? (a.add (i * 4)) = some (.int .i64 p.f) ∧ w.cell? ((a.add (i * 4)).add 1) = some (.int .i64 p.t) ∧ w.cell? ((a.add (i * 4)).add 2) = some (.int .i64 p.m) ∧ w.cell? ((a.add (i * 4)).add 3) = some (.slice p.A p.cs.length p.c) ∧ Chs w w.heap.size p.A p.cs ∧ p.cs.length ≤ 2 ^ 63 - 1 := by
      intro i
      by_cases him : i < m
      · obtain ⟨cs', hc, ht⟩ := hi i him
        rw [cLG] at hc
        obtain ⟨_, hcl, hat⟩ := World.cells?_some hc
        obtain ⟨y0, y1, y2, y3, k, _, _, t0, t1, t2, t3⟩ := trod_struct4 Try.underlying138 ht
        match cs', hcl with
        | [u0, u1, u2, u3], _ =>
          have e0 : ∃ q, [u0] = [Value.int .i64 q] := by
            obtain ⟨q, e, _, _⟩ := DataW.trod_int (k := .i64) Try.underlying3 t0
            rw [ci_] at e
            exact ⟨q, e⟩
          have e1 : ∃ q, [u1] = [Value.int .i64 q] := by
            obtain ⟨q, e, _, _⟩ := DataW.trod_int (k := .i64) Try.underlying3 t1
            rw [ci_] at e
            exact ⟨q, e⟩
          have e2 : ∃ q, [u2] = [Value.int .i64 q] := by
            obtain ⟨q, e, _, _⟩ := DataW.trod_int (k := .i64) Try.underlying3 t2
            rw [ci_] at e
            exact ⟨q, e⟩
          have cS : Try.prog.cellsOf 136 = 1 := by kernel_rfl
          rw [cS] at t3
          obtain ⟨A3, c3, cs3, e3, hS3, hn3⟩ := open_chs_ (v := u3) t3
          obtain ⟨q0, e0⟩ := e0
          obtain ⟨q1, e1⟩ := e1
          obtain ⟨q2, e2⟩ := e2
          simp only [List.cons.injEq, and_true] at e0 e1 e2
          subst e0 e1 e2 e3
          refine ⟨⟨q0, q1, q2, A3, c3, cs3⟩, fun _ => ⟨?_, hat 1 (by omega), hat 2 (by omega), hat 3 (by omega), hS3, hn3⟩⟩
          have := hat 0 (by omega)
          simpa [Addr.add] using this
      · exact ⟨sgZ, fun h => absurd h him⟩
    obtain ⟨g, hg⟩ := Classical.skolem.1 key
    have hget : ∀ k, k < len → ((List.range len).map g).getD k sgZ = g k := by
      intro k hk
      rw [List.getD_eq_getElem?_getD, List.getElem?_map, List.getElem?_range hk]; rfl
    have hlen : ((List.range len).map g).length = len := by simp
    refine ⟨some a, cap, (List.range len).map g, by simpa using hcs, ⟨fun hn => ?_, fun k hk => ?_⟩, by simp; omega, fun k hk => ?_⟩
    · rw [hlen] at hn
      have h0 := (hg 0 (by omega)).1
      rw [Nat.zero_mul] at h0
      obtain ⟨b, off, rfl, hb⟩ := addr_plain h0
      refine ⟨b, off, rfl, hb, fun i hi => ?_⟩
      rw [hlen] at hi
      obtain ⟨h1, h2, h3, h4, _, _⟩ := hg (i / 4) (by omega)
      rw [addr_add] at h1 h2 h3 h4
      rw [addr_add] at h2 h3 h4
      unfold sgAt
      rw [hget _ (by omega)]
      by_cases hp : i % 4 = 0
      · rw [if_pos hp, show off + i = off + i / 4 * 4 by omega]
        exact h1
      · by_cases hp2 : i % 4 = 1
        · rw [if_neg hp, if_pos hp2, show off + i = off + i / 4 * 4 + 1 by omega]
          exact h2
        · by_cases hp3 : i % 4 = 2
          · rw [if_neg hp, if_neg hp2, if_pos hp3, show off + i = off + i / 4 * 4 + 2 by omega]
            exact h3
          · rw [if_neg hp, if_neg hp2, if_neg hp3, show off + i = off + i / 4 * 4 + 3 by omega]
            exact h4
    · rw [hlen] at hk
      rw [hget k hk]
      exact (hg k (by omega)).2.2.2.2.1
    · rw [hlen] at hk
      rw [hget k hk]
      exact (hg k (by omega)).2.2.2.2.2
theorem open_segs {r : Reach} {b0 : Nat} {v : Value} {d : DataW H} {p : List MemPlace} (hv : Value.okWide Try.prog w r b0 26 v) (h : DataW.Trod enc Try.prog w base spare held 26 v d p) :
    ∃ (A : Option Addr) (c : Nat) (gs : List SgR), v = .slice A gs.length c ∧ Sgs w w.heap.size A gs ∧ gs.length ≤ 2 ^ 63 - 1 ∧ ∀ k, k < gs.length → (gs.getD k sgZ).cs.length ≤ 2 ^ 63 - 1 := by
  obtain ⟨a0, len0, cap0, rfl⟩ := okWide_slice Try.underlying26 hv
  obtain ⟨fuel, hf⟩ := h
  exact open_segs_ hf
end
end Go.Proofs.Ytihpadelfpogmaa
