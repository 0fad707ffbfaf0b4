/-
  Rows of marks of the call's own that grow by one; what rows of ints and rows of marks are behind a store into another block.
  Conditions: at most 1048576 elements.
-/
import Derived.Test.YteckhdkghfidiaaDoorRwi
import Derived.Test.YteckhdkghfidiaaDoorSio
namespace Go.Proofs.YteckhdkghfidiaaDoor
set_option linter.unusedVariables false
set_option maxRecDepth 100000
open Go.RowKit

def mV (ms : List Mrk) : List Value := ms.flatMap fun m => [.string m.1, .int .i64 m.2]
theorem mV_snoc (ms : List Mrk) (m : Mrk) : mV (ms ++ [m]) = mV ms ++ [.string m.1, .int .i64 m.2] := by
  unfold mV; rw [List.flatMap_append]; simp
theorem mV_get : ∀ (ms : List Mrk) (i : Nat), i < ms.length * 2 → (mV ms)[i]? = some (mrAt ms i)
  | [], i, h => by simp at h
  | m :: ms, i, h => by
    show ([_, _] ++ mV ms)[i]? = _
    by_cases hi : i < 2
    · rw [List.getElem?_append_left (by simpa using hi)]
      match i, hi with
      | 0, _ => rfl
      | 1, _ => rfl
    · rw [List.getElem?_append_right (by simpa using hi)]
      show (mV ms)[i - 2]? = _
      rw [mV_get ms (i - 2) (by simp at h; omega)]
      have e1 : (i - 2) % 2 = i % 2 := by omega
      have e2 : i / 2 = (i - 2) / 2 + 1 := by omega
      unfold mrAt
      rw [e1, e2, List.getD_cons_succ]
/-- A row of marks of the call's own, from block B on. -/
def RowM (w : World) (B : Nat) (v : Value) (ms : List Mrk) : Prop := w.ownsRow B 63 2 v ms.length (mV ms)
theorem RowM.new (w : World) {B : Nat} (hB : B ≤ w.heap.size) : RowM (w.alloc (.cells #[] 63)) B (.slice (some ⟨w.heap.size, 0, none⟩) 0 0) [] :=
  ⟨rfl, .inr ⟨_, 0, #[], rfl, hB, heap_alloc_new w _, by simp, by unfold maxLen; omega, rfl, rfl⟩⟩
theorem RowM.nil (w : World) (B : Nat) : RowM w B (.slice none 0 0) [] := World.ownsRow_nil w B _ 2
theorem RowM.slc {w : World} {B : Nat} {v : Value} {ms : List Mrk} (h : RowM w B v ms) : ∃ A c, v = .slice A ms.length c ∧ ms.length ≤ c ∧ SlM w B A ms := by
  rcases h.2 with ⟨rfl, h0⟩ | ⟨g, cap, cur, rfl, hb, hg, hnc, _, hcs, htk⟩
  · exact ⟨none, 0, by rw [h0], by omega, fun hn => by omega⟩
  · refine ⟨_, cap, rfl, by omega, Sl.own ⟨cur, hg, by have := Nat.mul_le_mul_right 2 hnc; omega, fun i hi => ?_⟩ hb⟩
    have h1 : (cur.toList.take (ms.length * 2))[i]? = some (mrAt ms i) := by rw [htk]; exact mV_get ms i hi
    rw [List.getElem?_take_of_lt hi] at h1
    simpa using h1
section
variable {w w' : World} {B : Nat} {v : Value} {ms : List Mrk} {xs : List Int}
theorem RowM.nx (h : RowM w B v ms) (hb : Nx w w') : RowM w' B v ms := by
  refine World.ownsRow.kept (row := none) h ⟨hb.os, hb.tape, hb.output, hb.size, fun i hi _ => hb.block i hi⟩ ?_
  cases hv : v.ownBlock with
  | none => exact .inl rfl
  | some g => exact .inr (by simp)
theorem RowM.rg {lo hi : Nat} (h : RowM w B v ms) (hr : Rg lo hi w w') (hh : hi ≤ B) : RowM w' B v ms := by
  rcases h.2 with ⟨rfl, h0⟩ | ⟨g, cap, cur, rfl, hb, hg, r⟩
  · exact ⟨h.1, .inl ⟨rfl, h0⟩⟩
  · have hlt := (World.ownsRow.lt h g rfl).2
    exact ⟨h.1, .inr ⟨g, cap, cur, rfl, hb, (hr.block g hlt (.inr (by omega))).trans hg, r⟩⟩
theorem RowM.ne {g : Nat} {t : TypeId} {ys : Array Value} (h : RowM w B v ms) (hb : Box w g t ys) (ht : t ≠ 63) : some g ≠ v.ownBlock := by
  intro he
  rcases h.2 with ⟨rfl, _⟩ | ⟨g', cap, cur, rfl, _, hg, _⟩
  · simp [Value.ownBlock] at he
  · obtain rfl : g = g' := by simpa [Value.ownBlock] using he
    unfold Box at hb
    rw [hg] at hb
    injection hb with hb
    injection hb with _ hb
    exact ht hb.symm
theorem RowM.far {p : Addr} {t : TypeId} {ys : Array Value} (h : RowM w B v ms) (hb : Box w p.block t ys) (ht : t ≠ 63) (u : Value) : RowM (w.setCell p u) B v ms := by
  have hne := h.ne hb ht
  rcases h.2 with ⟨rfl, h0⟩ | ⟨g, cap, cur, rfl, hb', hg, r⟩
  · exact ⟨h.1, .inl ⟨rfl, h0⟩⟩
  · exact ⟨h.1, .inr ⟨g, cap, cur, rfl, hb', (Below.heap_setCell w p u g (fun e => hne (by rw [e]; rfl))).trans hg, r⟩⟩
theorem RowI.far {p : Addr} {t : TypeId} {ys : Array Value} (h : RowI w B v xs) (hb : Box w p.block t ys) (ht : t ≠ 3) (u : Value) : RowI (w.setCell p u) B v xs := by
  have hne := h.ne hb ht
  rcases h.2 with ⟨rfl, h0⟩ | ⟨g, cap, cur, rfl, hb', hg, r⟩
  · exact ⟨h.1, .inl ⟨rfl, h0⟩⟩
  · exact ⟨h.1, .inr ⟨g, cap, cur, rfl, hb', (Below.heap_setCell w p u g (fun e => hne (by rw [e]; rfl))).trans hg, r⟩⟩
theorem RowM.grew {t : TypeId} {B' : Nat} (h : RowM w B v ms) (hg : GrewT t B' w w') (ht : t ≠ 63) : RowM w' B v ms := by
  rcases h.2 with ⟨rfl, h0⟩ | ⟨g, cap, cur, rfl, hb', hgc, r⟩
  · exact ⟨h.1, .inl ⟨rfl, h0⟩⟩
  · exact ⟨h.1, .inr ⟨g, cap, cur, rfl, hb', hg.box g _ cur (fun e => ht e.symm) hgc, r⟩⟩
theorem RowI.grew {t : TypeId} {B' : Nat} (h : RowI w B v xs) (hg : GrewT t B' w w') (ht : t ≠ 3) : RowI w' B v xs := by
  rcases h.2 with ⟨rfl, h0⟩ | ⟨g, cap, cur, rfl, hb', hgc, r⟩
  · exact ⟨h.1, .inl ⟨rfl, h0⟩⟩
  · exact ⟨h.1, .inr ⟨g, cap, cur, rfl, hb', hg.box g _ cur (fun e => ht e.symm) hgc, r⟩⟩
end
set_option maxHeartbeats 1000000 in
/-- append of one mark, at one operation of a drawn region. -/
theorem wp_addM {w : World} {o : Oper} {a : Act} {K : Act → World → Prop} {Q : Exit → Act → World → Prop}
    (s x : Operand) (ho : o.op = .call { callee := .builtin .append, args := #[s, x], argTypes := #[29, 29] })
    (B gd : Nat) (v : Value) (ms : List Mrk) (m : Mrk) (hs : a.eval s = v) (hx : a.eval x = .slice (some ⟨gd, 0, none⟩) 1 1) (hown : RowM w B v ms) (hbx : Box w gd 63 #[.string m.1, .int .i64 m.2])
    (hl : ms.length ≤ 1048576) (hB : B ≤ w.heap.size)
    (hK : ∀ A' k' w', RowM w' B (.slice A' (ms.length + 1) k') (ms ++ [m]) → GrewT 63 B w w' → K (a.put o.dst (.slice A' (ms.length + 1) k')) w') :
    o.wp Tryd.prog a w K Q := by
  obtain ⟨i0, hi0, hz0, hz1, hz2⟩ := info_parts info_mk
  refine wp_append_own w s x 29 ho B 63 i0 _ 2 24 Tryd.underlying29 hi0 hz0 hz1 hz2 rfl (by omega) v ms.length _ hs hown ⟨gd, 0, none⟩ 1 1 [.string m.1, .int .i64 m.2] hx rfl (fun j u hj => ?_) (fun u hu => by simp only [List.mem_cons, List.not_mem_nil, or_false] at hu; rcases hu with rfl | rfl <;> rfl) (by unfold maxLen; omega) (by omega) hB ?_
  · rw [addr_add', Nat.zero_add, hbx.cell j]
    rw [← hj]
    rcases j with _ | _ | j <;> simp
  · intro v' w' hw' hg' _
    have hr : RowM w' B v' (ms ++ [m]) := by
      unfold RowM
      rw [mV_snoc, List.length_append]
      exact hw'
    obtain ⟨A', k', rfl, _⟩ := hr.slc
    rw [List.length_append] at hr ⊢
    have hrow : ∀ k, Value.ownBlock v = some k → B ≤ k := fun k hk => (World.ownsRow.lt hown k hk).1
    refine hK A' k' w' hr ⟨fun b hb hbB => Below.grown hb hg' hb.size (fun k hk => Nat.le_trans hbB (hrow k hk)), fun lo hi b hb hbB => ?_, fun g t xs' ht hbg => hbg.grown hg' (hown.ne hbg ht), hg'.size⟩
    refine ⟨hg'.os.trans hb.os, hg'.tape.trans hb.tape, hg'.output.trans hb.output, Nat.le_trans hb.size hg'.size, fun k hk hr => (hg'.block k (Nat.lt_of_lt_of_le hk hb.size) fun e => ?_).trans (hb.block k hk hr)⟩
    have := hrow k e.symm
    omega
end Go.Proofs.YteckhdkghfidiaaDoor
