/-
  append of a whole list of segments onto an empty one of the call's own.
  Conditions: the list can be read, and has at most 1048576 segments.
-/
import Derived.Test.YtckekkhfjcaclaaRgs
namespace Go.Proofs.Ytckekkhfjcaclaa
set_option linter.unusedVariables false
open Go.RowKit
theorem GrewS.refl (B : Nat) (w : World) : GrewS B w w := ⟨fun _ h _ => h, fun _ _ _ h _ => h, fun _ _ _ _ _ h => h, fun _ _ _ _ h => h, Nat.le_refl _, ⟨rfl, rfl, rfl, Nat.le_refl _, fun _ _ => rfl⟩⟩
set_option maxHeartbeats 1000000 in
theorem wpList_addAll {w : World} {ops : Array Oper} {rest : List Oper} {o : Oper} {a : Act} {Q : Exit → Act → World → Prop}
    (hgd : o.guard = none) (s x : Operand) (ho : o.op = .call { callee := .builtin .append, args := #[s, x], argTypes := #[25, 25] })
    (B g0 m : Nat) (A : Option Addr) (c : Nat) (gs : List SgR) (hl : gs.length = m) (hs : a.eval s = .slice (some ⟨g0, 0, none⟩) 0 0) (hx : a.eval x = .slice A m c) (hown : RowS w B (.slice (some ⟨g0, 0, none⟩) 0 0) []) {B' : Nat} (hrow : Row w B' A (gs.length * 4) (sgAt gs))
    (hm : m ≤ 1048576) (hB : B ≤ w.heap.size)
    (hK : ∀ A' k' w', RowS w' B (.slice A' m k') gs → GrewS B w w' → wpList Try.prog ops Q rest (a.put o.dst (.slice A' m k')) w') :
    wpList Try.prog ops Q (o :: rest) a w := by
  obtain ⟨i0, hi0, hz0, hz1, hz2⟩ := info_parts info_sg
  subst hl
  rcases Nat.eq_zero_or_pos gs.length with h0 | hp
  · have hgs : gs = [] := List.eq_nil_of_length_eq_zero h0
    subst hgs
    refine wpList_plain hgd fun K' hK' => ?_
    have hrun : (Builtin.append_ #[25, 25] o.type #[.slice (some ⟨g0, 0, none⟩) 0 0, .slice A 0 c]).run Try.prog w = .ok (.slice (some ⟨g0, 0, none⟩) 0 0) w := by
      rcases A with _ | a'
      · simp [Builtin.append_, run_underlying Try.underlying25, sizeOf, typeInfo, hi0, Builtin.lenOf, Builtin.firstCells, storeCells]
      · simp [Builtin.append_, run_underlying Try.underlying25, sizeOf, typeInfo, hi0, Builtin.lenOf, Builtin.firstCells, storeCells, loadCells, loadCellsFrom]
    have hx' : a.eval x = .slice A 0 c := hx
    unfold Oper.wp execOp
    simp only [ho, resolve, invoke, builtin, Sem.run_bind, Sem.run_pure, Result.andThen_ok, List.map_toArray, List.map_cons, List.map_nil, hs, hx', hrun]
    exact hK' _ _ (hK _ _ w hown (GrewS.refl _ _))
  · obtain ⟨b, off, rfl, hb, hc⟩ := hrow (by omega)
    refine wpList_append_own w hgd s x 25 ho B 31 i0 _ 4 48 Try.underlying25 hi0 hz0 hz1 hz2 rfl (by omega) _ 0 _ hs hown ⟨b, off, none⟩ gs.length c (gVs gs) hx (gVs_len gs) (fun j u hj => ?_) (fun u hu => ?_) (by unfold maxLen; omega) (by omega) hB ?_
    · have hj' : j < gs.length * 4 := by
        have := (List.getElem?_eq_some_iff.1 hj).1
        rwa [gVs_len] at this
      rw [gVs_get gs j hj'] at hj
      rw [addr_add', hc j hj']
      exact hj
    · obtain ⟨j, hj⟩ := List.mem_iff_getElem?.1 hu
      have hj' : j < gs.length * 4 := by
        have := (List.getElem?_eq_some_iff.1 hj).1
        rwa [gVs_len] at this
      rw [gVs_get gs j hj'] at hj
      obtain rfl := Option.some.inj hj
      unfold sgAt
      split
      · rfl
      · split
        · rfl
        · split <;> rfl
    · intro v' w' hw' hg' _
      have hr : RowS w' B v' gs := by
        unfold RowS
        have : w'.ownsRow B 31 4 v' (0 + gs.length) (gVs [] ++ gVs gs) := hw'
        rw [Nat.zero_add] at this
        exact this
      obtain ⟨A', k', rfl, _⟩ := hr.sl
      have hrw : ∀ k, Value.ownBlock (.slice (some ⟨g0, 0, none⟩) 0 0) = some k → B ≤ k := fun k hk => (World.ownsRow.lt hown k hk).1
      have hown' : ∀ g t m f, t ≠ 31 → Own w g t m f → Own w' g t m f := fun g t m f ht ho => ho.of_block (hg'.block g ho.lt (hown.ne ho ht))
      refine hK A' k' w' hr ⟨fun b hb hbB => Below.grown hb hg' hb.size (fun k hk => Nat.le_trans hbB (hrw k hk)), fun lo hi b hb hbB => ?_, hown', fun g t xs ht hbg => ?_, hg'.size, ⟨hg'.os, hg'.tape, hg'.output, hg'.size, fun k hk => hg'.block k (by omega) (fun e => by have := hrw k e.symm; omega)⟩⟩
      · refine ⟨hg'.os.trans hb.os, hg'.tape.trans hb.tape, hg'.output.trans hb.output, Nat.le_trans hb.size hg'.size, fun k hk hr => (hg'.block k (Nat.lt_of_lt_of_le hk hb.size) fun e => ?_).trans (hb.block k hk hr)⟩
        have := hrw k e.symm
        omega
      · exact hbg.grown hg' (hown.ne hbg.own ht)
end Go.Proofs.Ytckekkhfjcaclaa
