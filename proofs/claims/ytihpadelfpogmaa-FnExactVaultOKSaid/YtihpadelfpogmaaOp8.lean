/-
  A list of bytes that comes in, opened.
  Conditions: none.
-/
import Derived.Test.YtihpadelfpogmaaSrc
import Derived.Outline
namespace Go.Proofs.Ytihpadelfpogmaa
set_option linter.unusedVariables false
set_option maxRecDepth 100000
open Go.ChangeShapes Go.WideShapes Go.RowKit Go.Deep

theorem addr_plain8 {w : World} {a : Addr} {v : Value} (h : w.cell? (a.add 0) = some v) : ∃ b off, a = ⟨b, off, none⟩ ∧ b < w.heap.size := by
  have h' : w.cell? a = some v := by simpa [Addr.add] using h
  have hs := World.cell?_spot h'
  obtain ⟨b, off, sp⟩ := a
  simp only at hs
  subst hs
  exact ⟨b, off, rfl, World.block_lt_of_cell? w _ h'⟩
theorem addr_add8 (b off i : Nat) : (Addr.mk b off none).add i = ⟨b, off + i, none⟩ := by
  unfold Addr.add
  by_cases h : i = 0
  · subst h; simp
  · simp [h]
theorem c5_ : Try.prog.cellsOf 5 = 1 := by kernel_rfl
theorem u8_wf {n : Int} (h : (Lit.int .u8 n).wf = true) : 0 ≤ n ∧ n < 256 := by
  have h2 : IntKind.u8.min ≤ n ∧ n ≤ IntKind.u8.max := by simpa [Lit.wf] using h
  have e1 : IntKind.u8.min = 0 := by decide
  have e2 : IntKind.u8.max = 255 := by decide
  omega
set_option maxRecDepth 100000 in
theorem open_u8s_ {H : Type} {enc : TypeId × Value → H} {w : World} {base : Nat} {spare : Nat → Bool} {held : Bool} {r : Reach} {b0 : Nat} {v : Value} {d : DataW H} {p : List MemPlace}
    (hv : Value.okWide Try.prog w r b0 69 v) (h : DataW.Trod enc Try.prog w base spare held 69 v d p) :
    ∃ (A : Option Addr) (n c : Nat) (ys : List Nat), v = .slice A n c ∧ U8s w w.heap.size A n ys ∧ n ≤ 2 ^ 63 - 1 := by
  obtain ⟨a0, len0, cap0, rfl⟩ := okWide_slice Try.underlying69 hv
  obtain ⟨fuel, hf⟩ := h
  rcases open_slice Try.underlying69 hf with ⟨hcs, _⟩ | ⟨a, len, cap, m, n, D, Pl, hcs, _, hl, hm, hmm, _, hi⟩
  · simp [Value.cells] at hcs
    obtain ⟨rfl, rfl, rfl⟩ := hcs
    exact ⟨none, 0, 0, [], rfl, ⟨rfl, fun i => by simp, fun hn => absurd hn (by omega)⟩, by omega⟩
  · simp [Value.cells] at hcs
    obtain ⟨rfl, rfl, rfl⟩ := hcs
    have hle : len0 ≤ m := by rw [hmm]; split <;> omega
    unfold maxLen at hm
    have key : ∀ i, ∃ q : Nat, q < 256 ∧ (i < m → w.cell? (a.add i) = some (.int .u8 (q : Int))) := by
      intro i
      by_cases him : i < m
      · obtain ⟨cs', hc, ht⟩ := hi i him
        rw [c5_, Nat.mul_one] at hc
        obtain ⟨_, hcl, hat⟩ := World.cells?_some hc
        obtain ⟨q, e, _, hw⟩ := DataW.trod_int Try.underlying5 ht
        subst e
        obtain ⟨h1, h2⟩ := u8_wf hw
        refine ⟨q.toNat, by omega, fun _ => ?_⟩
        have := hat 0 (by omega)
        rw [show ((q.toNat : Nat) : Int) = q by omega]
        simpa [Addr.add] using this
      · exact ⟨0, by omega, fun h => absurd h him⟩
    obtain ⟨g, hg⟩ := Classical.skolem.1 key
    refine ⟨some a, len0, cap0, (List.range len0).map g, rfl, ⟨by simp, fun i => ?_, fun hn => ?_⟩, by omega⟩
    · rw [List.getD_eq_getElem?_getD, List.getElem?_map]
      by_cases hi' : i < len0
      · rw [List.getElem?_range hi']; exact (hg i).1
      · rw [List.getElem?_eq_none (by simpa using hi')]; simp
    · obtain ⟨b, off, rfl, hb⟩ := addr_plain8 ((hg 0).2 (by omega))
      refine ⟨b, off, rfl, hb, fun i hi => ?_⟩
      have h1 := (hg i).2 (by omega)
      rw [addr_add8] at h1
      rw [h1]
      unfold u8At
      rw [List.getD_eq_getElem?_getD, List.getElem?_map, List.getElem?_range hi]; rfl
end Go.Proofs.Ytihpadelfpogmaa
