/-
  Rows of changes of the call's own that grow by one; what two lists of changes put together are.
  Conditions: those of each theorem.
-/
import Derived.Test.YtihpadelfpogmaaMpc
import Derived.Test.YtihpadelfpogmaaFwd
namespace Go.Proofs.Ytihpadelfpogmaa
set_option linter.unusedVariables false
set_option maxRecDepth 100000
open Go.RowKit

def cV (cs : List Chg) : List Value := cs.flatMap fun c => [.int .i64 c.1, .int .i64 c.2.1, .int .i64 c.2.2]
theorem cV_len : ∀ cs : List Chg, (cV cs).length = cs.length * 3
  | [] => rfl
  | c :: cs => by
    show ([_, _, _] ++ cV cs).length = _
    rw [List.length_append, cV_len cs, List.length_cons]
    simp only [List.length_cons, List.length_nil]; omega
theorem cV_snoc (cs : List Chg) (c : Chg) : cV (cs ++ [c]) = cV cs ++ [.int .i64 c.1, .int .i64 c.2.1, .int .i64 c.2.2] := by
  unfold cV; rw [List.flatMap_append]; simp
theorem cV_get : ∀ (cs : List Chg) (i : Nat), i < cs.length * 3 → (cV cs)[i]? = some (chAt cs i)
  | [], i, h => by simp at h
  | c :: cs, i, h => by
    show ([_, _, _] ++ cV cs)[i]? = _
    by_cases hi : i < 3
    · rw [List.getElem?_append_left (by simpa using hi)]
      match i, hi with
      | 0, _ => rfl
      | 1, _ => rfl
      | 2, _ => rfl
    · rw [List.getElem?_append_right (by simpa using hi)]
      show (cV cs)[i - 3]? = _
      rw [cV_get cs (i - 3) (by simp at h; omega)]
      have e1 : (i - 3) % 3 = i % 3 := by omega
      have e2 : i / 3 = (i - 3) / 3 + 1 := by omega
      unfold chAt
      rw [e1, e2, List.getD_cons_succ]
/-- A row of changes of the call's own, from block B on. -/
def RowC (w : World) (B : Nat) (v : Value) (cs : List Chg) : Prop := w.ownsRow B 84 3 v cs.length (cV cs)
theorem RowC.nil (w : World) (B : Nat) : RowC w B (.slice none 0 0) [] := World.ownsRow_nil w B _ 3
theorem RowC.new (w : World) {B : Nat} (hB : B ≤ w.heap.size) : RowC (w.alloc (.cells #[] 84)) B (.slice (some ⟨w.heap.size, 0, none⟩) 0 0) [] :=
  ⟨rfl, .inr ⟨_, 0, #[], rfl, hB, heap_alloc_new w _, by simp, by unfold maxLen; omega, rfl, rfl⟩⟩
theorem RowC.sl {w : World} {B : Nat} {v : Value} {cs : List Chg} (h : RowC w B v cs) : ∃ A c, v = .slice A cs.length c ∧ Sl w B A 84 (cs.length * 3) (chAt cs) := by
  rcases h.2 with ⟨rfl, h0⟩ | ⟨g, cap, cur, rfl, hb, hg, hnc, _, hcs, htk⟩
  · exact ⟨none, 0, by rw [h0], fun hn => by omega⟩
  · refine ⟨_, cap, rfl, Sl.own ⟨cur, hg, by have := Nat.mul_le_mul_right 3 hnc; omega, fun i hi => ?_⟩ hb⟩
    have h1 : (cur.toList.take (cs.length * 3))[i]? = some (chAt cs i) := by rw [htk]; exact cV_get cs i hi
    rw [List.getElem?_take_of_lt hi] at h1
    simpa using h1
theorem RowC.nx {w w' : World} {B : Nat} {v : Value} {cs : List Chg} (h : RowC w B v cs) (hb : Nx w w') : RowC w' B v cs := by
  refine h.kept (row := none) ⟨hb.os, hb.tape, hb.output, hb.size, fun i hi _ => hb.block i hi⟩ ?_
  cases hv : v.ownBlock with
  | none => exact .inl rfl
  | some g => exact .inr (by simp)
theorem RowC.ne {w : World} {B g : Nat} {v : Value} {cs : List Chg} {t : TypeId} {xs : Array Value} (h : RowC w B v cs) (hb : Box w g t xs) (ht : t ≠ 84) : some g ≠ v.ownBlock := by
  intro he
  rcases h.2 with ⟨rfl, _⟩ | ⟨g', cap, cur, rfl, _, hg, _⟩
  · simp [Value.ownBlock] at he
  · obtain rfl : g = g' := by simpa [Value.ownBlock] using he
    unfold Box at hb
    rw [hg] at hb
    injection hb with hb
    injection hb with _ hb
    exact ht hb.symm
theorem RowC.neM {w : World} {B b : Nat} {v : Value} {cs : List Chg} {M : Int → Option Chg} (h : RowC w B v cs) (hb : MapC w b M) : some b ≠ v.ownBlock := by
  intro he
  rcases h.2 with ⟨rfl, _⟩ | ⟨g', cap, cur, rfl, _, hg, _⟩
  · simp [Value.ownBlock] at he
  · obtain rfl : b = g' := by simpa [Value.ownBlock] using he
    obtain ⟨es, clock, hm, _⟩ := hb
    rw [hg] at hm
    cases hm
theorem RowC.far {w : World} {B g i : Nat} {v u : Value} {cs : List Chg} {t : TypeId} {xs : Array Value} (h : RowC w B v cs) (hb : Box w g t xs) (ht : t ≠ 84) : RowC (w.setCell ⟨g, i, none⟩ u) B v cs :=
  World.ownsRow.kept (row := some g) h ⟨rfl, rfl, rfl, by simp [World.setCell], fun k hk hn => Below.heap_setCell _ _ _ _ (fun e => hn (by rw [e]))⟩ (.inr (fun e => h.ne hb ht e.symm))
theorem RowC.farLow {w : World} {B g i : Nat} {v u : Value} {cs : List Chg} (h : RowC w B v cs) (hg : g < B) : RowC (w.setCell ⟨g, i, none⟩ u) B v cs := by
  refine World.ownsRow.kept (row := some g) h ⟨rfl, rfl, rfl, by simp [World.setCell], fun k hk hn => Below.heap_setCell _ _ _ _ (fun e => hn (by rw [e]))⟩ (.inr fun e => ?_)
  have := (World.ownsRow.lt h g e).1
  omega
theorem RowC.rg {w w' : World} {B lo hi : Nat} {v : Value} {cs : List Chg} (h : RowC w B v cs) (hr : Rg lo hi w w') (hh : hi ≤ B) : RowC w' B v cs := by
  rcases h.2 with ⟨rfl, h0⟩ | ⟨g, cap, cur, rfl, hb, hg, r⟩
  · exact ⟨h.1, .inl ⟨rfl, h0⟩⟩
  · have hlt := (World.ownsRow.lt h g rfl).2
    exact ⟨h.1, .inr ⟨g, cap, cur, rfl, hb, (hr.block g hlt (.inr (by omega))).trans hg, r⟩⟩
theorem info_ch : (Try.prog.info? 84).map (fun i => (i.zero, i.size, i.bytes)) = some (some (.agg #[.int .i64 0, .int .i64 0, .int .i64 0]), 3, 24) := by kernel_rfl
/-- What an append of one change leaves as it is. -/
structure Grew (B : Nat) (w w' : World) : Prop where
  nx : ∀ a, Nx a w → a.heap.size ≤ B → Nx a w'
  box : ∀ g t xs, t ≠ 84 → Box w g t xs → Box w' g t xs
  map : ∀ b M, MapC w b M → MapC w' b M
  size : w.heap.size ≤ w'.heap.size
/-- append of one change at the operation, for the walk. -/
theorem wpList_addC {w : World} {ops : Array Oper} {rest : List Oper} {o : Oper} {a : Act} {Q : Exit → Act → World → Prop}
    (hgd : o.guard = none) (s x : Operand) (ho : o.op = .call { callee := .builtin .append, args := #[s, x], argTypes := #[52, 52] })
    (B gd : Nat) (v : Value) (cs : List Chg) (x0 x1 x2 : Int) (hs : a.eval s = v) (hx : a.eval x = .slice (some ⟨gd, 0, none⟩) 1 1) (hown : RowC w B v cs) (hbx : Box w gd 84 #[.int .i64 x0, .int .i64 x1, .int .i64 x2])
    (hl : cs.length ≤ 1048576) (hB : B ≤ w.heap.size)
    (hK : ∀ A' k' w', RowC w' B (.slice A' (cs.length + 1) k') (cs ++ [(x0, x1, x2)]) → Grew B w w' → wpList Try.prog ops Q rest (a.put o.dst (.slice A' (cs.length + 1) k')) w') :
    wpList Try.prog ops Q (o :: rest) a w := by
  obtain ⟨i0, hi0, hz0, hz1, hz2⟩ := info_parts info_ch
  refine wpList_append_own w hgd s x 52 ho B 84 i0 _ 3 24 Try.underlying52 hi0 hz0 hz1 hz2 rfl (by omega) v cs.length _ hs hown ⟨gd, 0, none⟩ 1 1 [.int .i64 x0, .int .i64 x1, .int .i64 x2] hx rfl (fun j u hj => ?_) (fun u hu => by simp only [List.mem_cons, List.not_mem_nil, or_false] at hu; rcases hu with rfl | rfl | rfl <;> rfl) (by unfold maxLen; omega) (by omega) hB ?_
  · rw [addr_add', Nat.zero_add, hbx.cell j]
    rw [← hj]
    rcases j with _ | _ | _ | j <;> simp
  · intro v' w' hw' hg' _
    have hr : RowC w' B v' (cs ++ [(x0, x1, x2)]) := by
      unfold RowC
      rw [cV_snoc, List.length_append]
      exact hw'
    obtain ⟨A', k', rfl, _⟩ := hr.sl
    rw [List.length_append] at hr ⊢
    refine hK A' k' w' hr ⟨fun b hb hbB => Below.grown hb hg' hb.size (fun k hk => Nat.le_trans hbB (World.ownsRow.lt hown k hk).1), fun g t xs ht hbg => hbg.grown hg' (hown.ne hbg ht), fun b M hm => ?_, hg'.size⟩
    have hlt := hm.lt
    have hne := hown.neM hm
    obtain ⟨es, clock, h1, h2⟩ := hm
    exact ⟨es, clock, (hg'.block b hlt hne).trans h1, h2⟩
end Go.Proofs.Ytihpadelfpogmaa
