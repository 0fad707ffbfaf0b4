/-
  Append of a whole list of ints onto an empty row at one operation of a drawn region; what rows are behind the stores into a block of six cells.
  Conditions: at most 1048576 elements.
-/
import Derived.Test.YteckhdkghfidiaaDoorSta
import Derived.Test.YteckhdkghfidiaaDoorRwm
import Derived.Test.YteckhdkghfidiaaDoorPut
import Derived.Deep.AppendLies
namespace Go.Proofs.YteckhdkghfidiaaDoor
set_option linter.unusedVariables false
set_option maxRecDepth 100000
open Go.RowKit

set_option maxHeartbeats 1000000 in
/-- append of a whole list of ints onto an empty row, at one operation of a drawn region. -/
theorem wp_addAllJ {w : World} {o : Oper} {a : Act} {K : Act → World → Prop} {Q : Exit → Act → World → Prop}
    (s x : Operand) (ho : o.op = .call { callee := .builtin .append, args := #[s, x], argTypes := #[22, 22] })
    (B g0 : Nat) (A : Option Addr) (c : Nat) (xs : List Int) (hs : a.eval s = .slice (some ⟨g0, 0, none⟩) 0 0) (hx : a.eval x = .slice A xs.length c) (hown : RowI w B (.slice (some ⟨g0, 0, none⟩) 0 0) []) {B' : Nat} (hrow : Ins w B' A xs)
    (hm : xs.length ≤ 1048576) (hB : B ≤ w.heap.size)
    (hK : ∀ A' k' w', RowI w' B (.slice A' xs.length k') xs → GrewT 3 B w w' → (∀ k, k < w.heap.size → k ≠ g0 → w'.heap[k]? = w.heap[k]?) → K (a.put o.dst (.slice A' xs.length k')) w') :
    o.wp Tryd.prog a w K Q := by
  obtain ⟨i0, hi0, hz0, hz1, hz2⟩ := info_parts info_int
  rcases Nat.eq_zero_or_pos xs.length with h0 | hp
  · have hgs : xs = [] := List.eq_nil_of_length_eq_zero h0
    subst hgs
    have hrun : (Builtin.append_ #[22, 22] o.type #[.slice (some ⟨g0, 0, none⟩) 0 0, .slice A 0 c]).run Tryd.prog w = .ok (.slice (some ⟨g0, 0, none⟩) 0 0) w := by
      rcases A with _ | a'
      · simp [Builtin.append_, run_underlying Tryd.underlying22, sizeOf, typeInfo, hi0, Builtin.lenOf, Builtin.firstCells, storeCells]
      · simp [Builtin.append_, run_underlying Tryd.underlying22, sizeOf, typeInfo, hi0, Builtin.lenOf, Builtin.firstCells, storeCells, loadCells, loadCellsFrom]
    have hx' : a.eval x = .slice A 0 c := hx
    unfold Oper.wp execOp
    simp only [ho, resolve, invoke, builtin, Sem.run_bind, Sem.run_pure, Result.andThen_ok, List.map_toArray, List.map_cons, List.map_nil, hs, hx', hrun]
    exact hK _ _ w hown (grewT_refl' _ _ _) (fun _ _ _ => rfl)
  · obtain ⟨b, off, rfl, hb, hc⟩ := hrow (by omega)
    refine wp_append_own w s x 22 ho B 3 i0 _ 1 8 Tryd.underlying22 hi0 hz0 hz1 hz2 rfl (by omega) _ 0 _ hs hown ⟨b, off, none⟩ xs.length c (iV xs) hx (by rw [iV_len', Nat.mul_one]) (fun j u hj => ?_) (iV_one' xs) (by unfold maxLen; omega) (by omega) hB ?_
    · have hj' : j < xs.length := by
        have := (List.getElem?_eq_some_iff.1 hj).1
        rwa [iV_len'] at this
      rw [iV_get xs j hj'] at hj
      rw [addr_add', hc j hj']
      exact hj
    · intro v' w' hw' hg' _
      have hr : RowI w' B v' xs := by
        unfold RowI
        have : w'.ownsRow B 3 1 v' (0 + xs.length) (iV [] ++ iV xs) := hw'
        rw [Nat.zero_add] at this
        exact this
      obtain ⟨A', k', rfl, _⟩ := hr.sl
      exact hK A' k' w' hr (grewT_of' hown hg') (fun k hk hne => hg'.block k hk (fun e => hne (by simpa [Value.ownBlock] using e)))

theorem RowM.pt6t {u : World} {B g : Nat} {v : Value} {ms : List Mrk} {t' : TypeId} {a b c d x y : Value} (h : RowM u B v ms) (hb : Box u g t' #[a, b, c, d, x, y]) (ht : t' ≠ 63) (v0 v1 v2 v3 v4 v5 : Value) : RowM (put6 u g v0 v1 v2 v3 v4 v5) B v ms :=
  (((((h.far (p := ⟨g, 0, none⟩) hb ht v0).far (p := ⟨g, 1, none⟩) (hb.set 0 v0) ht v1).far (p := ⟨g, 2, none⟩) ((hb.set 0 v0).set 1 v1) ht v2).far (p := ⟨g, 3, none⟩) (((hb.set 0 v0).set 1 v1).set 2 v2) ht v3).far (p := ⟨g, 4, none⟩) ((((hb.set 0 v0).set 1 v1).set 2 v2).set 3 v3) ht v4).far (p := ⟨g, 5, none⟩) (((((hb.set 0 v0).set 1 v1).set 2 v2).set 3 v3).set 4 v4) ht v5
theorem Sl.grew {w w' : World} {lo B m : Nat} {A : Option Addr} {t t' : TypeId} {f : Nat → Value} (h : Sl w lo A t m f) (hg : GrewT t' B w w') (ht : t ≠ t') : Sl w' lo A t m f := fun hm => by
  obtain ⟨g, e, hl, cs, hc, r⟩ := h hm
  exact ⟨g, e, hl, cs, hg.box g t cs ht hc, r⟩
theorem merge6 {G : Nat → Nat → Nat → Option Addr → Nat → World → Prop} {F : Nat → Nat → Nat → Option Addr → Nat → World → Prop} {R : Prop} (main : (∀ gi gs gm A c W, F gi gs gm A c W → G gi gs gm A c W) → R) (key : ∀ gi gs gm A c W, F gi gs gm A c W → G gi gs gm A c W) : R := main key
end Go.Proofs.YteckhdkghfidiaaDoor
