/-
  Words on maps from ints to changes that the call itself has made: made, looked up, stored into.
  Conditions: none.
-/
import Derived.Test.YtihpadelfpogmaaSeg
import Derived.Maps.Own
namespace Go.Proofs.Ytihpadelfpogmaa
set_option linter.unusedVariables false
set_option maxRecDepth 100000
open Go.RowKit Go.ChangeMaps Go.MapKept Go.WideShapes

def vC (c : Chg) : Value := .agg #[.int .i64 c.1, .int .i64 c.2.1, .int .i64 c.2.2]
/-- The entries of a map, each key once, are what M says. -/
structure Ent (es : List MapEntry) (M : Int → Option Chg) : Prop where
  has : ∀ e ∈ es, ∃ k c, e.key = .int .i64 k ∧ (Lit.int .i64 k).wf = true ∧ e.val = vC c ∧ M k = some c
  all : ∀ k c, M k = some c → ∃ e ∈ es, e.key = .int .i64 k
  one : ∀ (i j : Nat) (x y : MapEntry), es[i]? = some x → es[j]? = some y → x.key = y.key → i = j
/-- Block b is a map from ints to changes. -/
def MapC (w : World) (b : Nat) (M : Int → Option Chg) : Prop := ∃ es clock, w.heap[b]? = some (.map es clock) ∧ Ent es.toList M
section
variable {w w' : World} {b : Nat} {M : Int → Option Chg}
theorem MapC.lt (h : MapC w b M) : b < w.heap.size := by
  obtain ⟨es, clock, hb, _⟩ := h
  exact (Array.getElem?_eq_some_iff.1 hb).1
theorem MapC.nx (h : MapC w b M) (hb : Nx w w') : MapC w' b M := by
  have hlt := h.lt
  obtain ⟨es, clock, h1, h2⟩ := h
  exact ⟨es, clock, (hb.block b hlt).trans h1, h2⟩
theorem MapC.rg {lo hi : Nat} (h : MapC w b M) (hb : Rg lo hi w w') (hg : b < lo ∨ hi ≤ b) : MapC w' b M := by
  have hlt := h.lt
  obtain ⟨es, clock, h1, h2⟩ := h
  exact ⟨es, clock, (hb.block b hlt hg).trans h1, h2⟩
theorem MapC.alloc (h : MapC w b M) (o : Obj) : MapC (w.alloc o) b M := h.nx ((Nx.refl w).alloc o)
theorem MapC.far (h : MapC w b M) {p : Addr} (hp : b ≠ p.block) (v : Value) : MapC (w.setCell p v) b M := by
  obtain ⟨es, clock, h1, h2⟩ := h
  exact ⟨es, clock, (Below.heap_setCell w p v b hp).trans h1, h2⟩
theorem MapC.made (w : World) : MapC (w.alloc (.map #[] 0)) w.heap.size (fun _ => none) :=
  ⟨#[], 0, (MapKept.heap_alloc w _).1, ⟨by simp, by simp, by simp⟩⟩
end
theorem keyI : Maps.Keyed Try.prog 3 := Maps.int_keyed Try.underlying3
theorem keyI_mk {k : Int} (hw : (Lit.int .i64 k).wf = true) : keyOf Try.prog 3 (.int .i64 k) = some (.int .i64 k) := Maps.keyOf_int_mk Try.underlying3 hw
theorem zeroC (w : World) : (zeroValue 84).run Try.prog w = .ok (vC chZ) w := by
  have h : (Try.prog.info? 84).bind (fun i => i.zero) = some (vC chZ) := by kernel_rfl
  cases hi : Try.prog.info? 84 with
  | none => rw [hi] at h; cases h
  | some i =>
    rw [hi] at h
    simp only [Option.bind_some] at h
    simp [zeroValue, typeInfo, hi, h, go_sem]
theorem Ent.keys {es : List MapEntry} {M : Int → Option Chg} (h : Ent es M) : ∀ e ∈ es, ∃ l, keyOf Try.prog 3 e.key = some l := fun e he => by
  obtain ⟨k, c, hk, hw, _⟩ := h.has e he
  exact ⟨_, by rw [hk]; exact keyI_mk hw⟩
theorem MapC.look {w : World} {b : Nat} {M : Int → Option Chg} (h : MapC w b M) {k : Int} (hw : (Lit.int .i64 k).wf = true) :
    (Instr.lookup 128 (.map (some b)) (.int .i64 k) true).run Try.prog w = .ok (.tuple #[vC ((M k).getD chZ), .bool (M k).isSome]) w := by
  obtain ⟨es, clock, hb, he⟩ := h
  rcases keyI.find w (keyI_mk hw) es.toList he.keys with ⟨h1, h2⟩ | ⟨j, e0, h1, h2, h3⟩
  · have hM : M k = none := by
      cases hM : M k with
      | none => rfl
      | some c =>
        obtain ⟨e, hm, hk⟩ := he.all k c hM
        exact absurd hk (h2 e hm)
    simp [Instr.lookup, run_underlying Try.underlying128, MapKept.run_getObj_map hb, keyI.check w _ (keyI_mk hw), h1, Result.andThen, hM]
    rfl
  · obtain ⟨k', c, hk, _, hv, hM⟩ := he.has e0 (List.mem_of_getElem? h2)
    rw [h3] at hk
    injection hk with _ hk
    subst hk
    simp [Instr.lookup, run_underlying Try.underlying128, MapKept.run_getObj_map hb, keyI.check w _ (keyI_mk hw), h1, Result.andThen, hM, hv]
theorem MapC.put {w : World} {b : Nat} {M : Int → Option Chg} (h : MapC w b M) {k : Int} (hw : (Lit.int .i64 k).wf = true) (c : Chg) :
    ∃ w', (Instr.mapUpdate 128 (.map (some b)) (.int .i64 k) (vC c)).run Try.prog w = .ok () w' ∧ MapC w' b (fun x => if x = k then some c else M x) ∧ Rg b (b + 1) w w' := by
  obtain ⟨es, clock, hb, he⟩ := h
  have hrg : ∀ es' clock', Rg b (b + 1) w (setBlock w b (.map es' clock')) := fun es' clock' => ⟨rfl, rfl, rfl, by simp [setBlock], fun i _ hi => heap_setBlock_other hb _ (by omega)⟩
  rcases keyI.find w (keyI_mk hw) es.toList he.keys with ⟨h1, h2⟩ | ⟨j, e0, h1, h2, h3⟩
  · refine ⟨setBlock w b (.map (es.push ⟨.int .i64 k, vC c, clock⟩) (clock + 1)), ?_, ⟨_, _, heap_setBlock_same hb _, ?_⟩, hrg _ _⟩
    · simp [Instr.mapUpdate, run_underlying Try.underlying128, MapKept.run_getObj_map hb, keyI.check w false (keyI_mk hw), h1, MapKept.run_setObj_map _ hb, Result.andThen, setBlock]
    · rw [Array.toList_push]
      refine ⟨fun e hm => ?_, fun x d hx => ?_, fun i j x y hx hy hxy => ?_⟩
      · rcases List.mem_append.1 hm with hm | hm
        · obtain ⟨k', c', hk, hw', hv, hM⟩ := he.has e hm
          refine ⟨k', c', hk, hw', hv, ?_⟩
          have : k' ≠ k := fun e1 => h2 e hm (by rw [hk, e1])
          simp [this, hM]
        · simp only [List.mem_singleton] at hm
          subst hm
          exact ⟨k, c, rfl, hw, rfl, by simp⟩
      · by_cases hxk : x = k
        · exact ⟨⟨.int .i64 k, vC c, clock⟩, by simp, by rw [hxk]⟩
        · simp only [if_neg hxk] at hx
          obtain ⟨e, hm, hk⟩ := he.all x d hx
          exact ⟨e, by simp [hm], hk⟩
      · have hlen : ∀ (i : Nat) (x : MapEntry), (es.toList ++ [⟨.int .i64 k, vC c, clock⟩])[i]? = some x → (i < es.toList.length ∧ es.toList[i]? = some x) ∨ (i = es.toList.length ∧ x.key = .int .i64 k) := by
          intro i x hx
          rcases Nat.lt_or_ge i es.toList.length with hl | hl
          · rw [List.getElem?_append_left hl] at hx
            exact .inl ⟨hl, hx⟩
          · rw [List.getElem?_append_right hl] at hx
            have hi : i - es.toList.length = 0 := by
              have := (List.getElem?_eq_some_iff.1 hx).1
              simpa using this
            rw [hi] at hx
            simp only [List.getElem?_cons_zero, Option.some.injEq] at hx
            exact .inr ⟨by omega, by rw [← hx]⟩
        rcases hlen i x hx with ⟨hi, hx⟩ | ⟨hi, hx⟩ <;> rcases hlen j y hy with ⟨hj, hy⟩ | ⟨hj, hy⟩
        · exact he.one i j x y hx hy hxy
        · exact absurd (hxy.trans hy) (h2 x (List.mem_of_getElem? hx))
        · exact absurd (hxy.symm.trans hx) (h2 y (List.mem_of_getElem? hy))
        · omega
  · have hj : es[j]? = some e0 := by simpa using h2
    have hlist : (es.modify j (fun e' => { e' with key := .int .i64 k, val := vC c })).toList = es.toList.set j { e0 with key := .int .i64 k, val := vC c } := by rw [Array.toList_modify, modify_eq_set _ _ _ _ h2]
    have hjl : j < es.toList.length := (List.getElem?_eq_some_iff.1 h2).1
    have hget : ∀ (i : Nat) (x : MapEntry), (es.toList.set j { e0 with key := .int .i64 k, val := vC c })[i]? = some x → (i = j ∧ x = { e0 with key := .int .i64 k, val := vC c }) ∨ (i ≠ j ∧ es.toList[i]? = some x ∧ x.key ≠ .int .i64 k) := by
      intro i x hx
      rw [List.getElem?_set] at hx
      by_cases hij : j = i
      · rw [if_pos hij, if_pos hjl] at hx
        exact .inl ⟨hij.symm, (Option.some.inj hx).symm⟩
      · rw [if_neg hij] at hx
        exact .inr ⟨fun e => hij e.symm, hx, fun e => hij (he.one j i e0 x h2 hx (by rw [h3, e]))⟩
    refine ⟨setBlock w b (.map (es.modify j (fun e' => { e' with key := .int .i64 k, val := vC c })) clock), ?_, ⟨_, _, heap_setBlock_same hb _, ?_⟩, hrg _ _⟩
    · simp [Instr.mapUpdate, run_underlying Try.underlying128, MapKept.run_getObj_map hb, keyI.check w false (keyI_mk hw), h1, hj, h3, keyI.stays w (keyI_mk hw), MapKept.run_setObj_map _ hb, Result.andThen, setBlock]
    · rw [hlist]
      refine ⟨fun e hm => ?_, fun x d hx => ?_, fun i i' x y hx hy hxy => ?_⟩
      · obtain ⟨i, hi⟩ := List.mem_iff_getElem?.1 hm
        rcases hget i e hi with ⟨_, rfl⟩ | ⟨_, hi, hne⟩
        · exact ⟨k, c, rfl, hw, rfl, by simp⟩
        · obtain ⟨k', c', hk, hw', hv, hM⟩ := he.has e (List.mem_of_getElem? hi)
          refine ⟨k', c', hk, hw', hv, ?_⟩
          have : k' ≠ k := fun e1 => hne (by rw [hk, e1])
          simp [this, hM]
      · by_cases hxk : x = k
        · exact ⟨{ e0 with key := .int .i64 k, val := vC c }, List.mem_iff_getElem?.2 ⟨j, by rw [List.getElem?_set, if_pos rfl, if_pos hjl]⟩, by rw [hxk]⟩
        · simp only [if_neg hxk] at hx
          obtain ⟨e, hm, hk⟩ := he.all x d hx
          obtain ⟨i, hi⟩ := List.mem_iff_getElem?.1 hm
          refine ⟨e, List.mem_iff_getElem?.2 ⟨i, ?_⟩, hk⟩
          have hij : j ≠ i := by
            rintro rfl
            rw [h2] at hi
            cases hi
            rw [h3] at hk
            injection hk with _ hk
            exact hxk hk.symm
          rw [List.getElem?_set, if_neg hij]
          exact hi
      · rcases hget i x hx with ⟨hi, hx⟩ | ⟨hi, hx, hnx⟩ <;> rcases hget i' y hy with ⟨hi', hy⟩ | ⟨hi', hy, hny⟩
        · omega
        · exact absurd (by rw [← hxy, hx]) hny
        · exact absurd (by rw [hxy, hy]) hnx
        · exact he.one i i' x y hx hy hxy
/-- A store into such a map at the operation, for the walk. -/
theorem wpList_put {w : World} {ops : Array Oper} {rest : List Oper} {o : Oper} {a : Act} {Q : Exit → Act → World → Prop}
    (hg : o.guard = none) (m x v : Operand) (hop : o.op = Op.mapUpdate 128 m x v) (b : Nat) (M : Int → Option Chg) (k : Int) (c : Chg)
    (hm : a.eval m = .map (some b)) (hown : MapC w b M) (hx : a.eval x = .int .i64 k) (hv : a.eval v = vC c) (hw : (Lit.int .i64 k).wf = true)
    (hK : ∀ w', MapC w' b (fun x => if x = k then some c else M x) → Rg b (b + 1) w w' → wpList Try.prog ops Q rest (a.put o.dst undef) w') :
    wpList Try.prog ops Q (o :: rest) a w := by
  refine wpList_plain hg fun K' hK' => ?_
  obtain ⟨w', hrun, r1, r2⟩ := hown.put hw c
  unfold Oper.wp
  simp [execOp, hop, hm, hx, hv, hrun, Result.andThen]
  exact hK' _ _ (hK w' r1 r2)
end Go.Proofs.Ytihpadelfpogmaa
