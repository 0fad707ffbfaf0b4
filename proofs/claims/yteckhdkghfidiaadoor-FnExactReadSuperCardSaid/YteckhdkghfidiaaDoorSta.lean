/-
  What the text of a super is: its numbers, its words; laws on lists of words; append of a whole list of ints onto four; rows of words that grow.
  Conditions: what is read can be read.
-/
import Derived.Test.YteckhdkghfidiaaDoorNmt
import Derived.Test.YteckhdkghfidiaaDoorSio
import Derived.Test.YteckhdkghfidiaaDoorRwi
import Derived.Lib.Join
namespace Go.Proofs.YteckhdkghfidiaaDoor
set_option linter.unusedVariables false
set_option maxRecDepth 100000
open Go.RowKit

/-- The numbers of a super. -/
def supL (g b p t : Int) (xs : List Int) : List Int := [g, b, p, t] ++ xs
def supN (g b p t : Int) (xs : List Int) : List Nat := (supL g b p t xs).map Int.toNat
theorem supL_len (g b p t : Int) (xs : List Int) : (supL g b p t xs).length = xs.length + 4 := by unfold supL; simp
theorem supN_len (g b p t : Int) (xs : List Int) : (supN g b p t xs).length = xs.length + 4 := by unfold supN; rw [List.length_map, supL_len]
theorem superB_yes {g b p t : Int} {xs : List Int} {ms : List Mrk} (h : superB g b p t xs ms = true) :
    (1 ≤ g ∧ g ≤ 999999) ∧ (0 ≤ b ∧ b ≤ 999999) ∧ (b ≤ p ∧ p ≤ 999999) ∧ (b ≤ t ∧ t ≤ 999999) ∧ tbB xs = true ∧ msB ms = true := by
  unfold superB at h
  simp only [Bool.and_eq_true] at h
  exact ⟨inB_yes h.1.1.1.1.1, inB_yes h.1.1.1.1.2, inB_yes h.1.1.1.2, inB_yes h.1.1.2, h.1.2, h.2⟩
theorem tbB_in {xs : List Int} (h : tbB xs = true) {x : Int} (hx : x ∈ xs) : 10 ≤ x ∧ x ≤ 63 := by
  obtain ⟨_, hto⟩ := tbB_yes h
  obtain ⟨i, hi, rfl⟩ := List.getElem_of_mem hx
  have h1 := hto i hi
  unfold tbOk at h1
  rw [Bool.and_eq_true] at h1
  have h2 := inB_yes h1.1
  rwa [List.getD_eq_getElem?_getD, List.getElem?_eq_getElem hi, Option.getD_some] at h2
theorem supL_in {g b p t : Int} {xs : List Int} {ms : List Mrk} (h : superB g b p t xs ms = true) : ∀ x ∈ supL g b p t xs, 0 ≤ x ∧ x ≤ 999999 := by
  obtain ⟨h0, h1, h2, h3, h4, _⟩ := superB_yes h
  intro x hx
  unfold supL at hx
  simp only [List.mem_append, List.mem_cons, List.not_mem_nil, or_false] at hx
  rcases hx with (rfl | rfl | rfl | rfl) | hx
  · omega
  · omega
  · omega
  · omega
  · have := tbB_in h4 hx; omega
theorem supN_all {g b p t : Int} {xs : List Int} {ms : List Mrk} (h : superB g b p t xs ms = true) : All6 (supN g b p t xs) := fun k hk => by
  have hk' : k < (supL g b p t xs).length := by unfold supN at hk; rwa [List.length_map] at hk
  unfold supN
  rw [List.getD_eq_getElem?_getD, List.getElem?_map, List.getElem?_eq_getElem hk', Option.map_some, Option.getD_some]
  have := supL_in h _ (List.getElem_mem hk')
  omega
theorem supN_row {g b p t : Int} {xs : List Int} {ms : List Mrk} (h : superB g b p t xs ms = true) {w : World} {B n : Nat} {A : Option Addr} (hn : n = (supN g b p t xs).length) (hr : Row w B A n (inAt (supL g b p t xs))) : Row w B A (supN g b p t xs).length (intAt (supN g b p t xs)) := by
  subst hn
  intro hm
  obtain ⟨bb, off, e, hb, hc⟩ := hr hm
  refine ⟨bb, off, e, hb, fun i hi => ?_⟩
  rw [hc i hi]
  have hk' : i < (supL g b p t xs).length := by unfold supN at hi; rwa [List.length_map] at hi
  unfold inAt intAt supN
  rw [List.getD_eq_getElem?_getD, List.getElem?_eq_getElem hk', Option.getD_some, List.getD_eq_getElem?_getD, List.getElem?_map, List.getElem?_eq_getElem hk', Option.map_some, Option.getD_some]
  have := supL_in h _ (List.getElem_mem hk')
  rw [Int.toNat_of_nonneg this.1]
theorem msB_at {ms : List Mrk} (h : msB ms = true) {k : Nat} (hk : k < ms.length) : (ms.getD k mrZ).1.size ≤ 6 ∧ 0 ≤ (ms.getD k mrZ).2 ∧ (ms.getD k mrZ).2 ≤ 999999 := by
  have h1 := (msB_yes h).2 k hk
  unfold okMk mkB nmB at h1
  simp only [Bool.and_eq_true] at h1
  have h2 := inB_yes h1.1.1.1
  have h3 := inB_yes h1.1.2
  omega

/-- The word of a mark. -/
def mkW (m : Mrk) : ByteArray := m.1 ++ ⟨#[61]⟩ ++ ⟨(digs m.2.toNat).toArray⟩
def wds (ms : List Mrk) : List ByteArray := ms.map mkW
theorem wds_len (ms : List Mrk) : (wds ms).length = ms.length := by unfold wds; simp
def wdAt (ws : List ByteArray) (i : Nat) : Value := .string (ws.getD i ByteArray.empty)
/-- Words with signs between. -/
def jn (ws : List ByteArray) : ByteArray := ⟨(Lib.join (ws.map (·.data.toList)) [44]).toArray⟩
theorem jn_nil : jn [] = ⟨#[]⟩ := rfl
theorem jn_one (x : ByteArray) : jn [x] = x := by
  unfold jn
  rw [List.map_cons, List.map_nil, Lib.join_one]
theorem jn_snoc {ws : List ByteArray} (h : 0 < ws.length) (y : ByteArray) : jn (ws ++ [y]) = jn ws ++ ⟨#[44]⟩ ++ y := by
  rcases ws with _ | ⟨x, r⟩
  · simp at h
  · have e : (jn ((x :: r) ++ [y])).data.toList = (jn (x :: r) ++ ⟨#[44]⟩ ++ y).data.toList := by
      rw [ba_app, ba_app]
      unfold jn
      simp only [List.cons_append, List.map_cons, List.map_append, List.map_nil, Lib.join_cons]
      unfold Lib.joinTail
      simp
    have e2 := ba_eq e
    rw [e2]
theorem jn_take {ws : List ByteArray} {k : Nat} (hk : k < ws.length) : ws.take (k + 1) = ws.take k ++ [ws.getD k ByteArray.empty] := by
  rw [List.take_succ_eq_append_getElem hk, List.getD_eq_getElem?_getD, List.getElem?_eq_getElem hk, Option.getD_some]
theorem wds_at {ms : List Mrk} {k : Nat} (hk : k < ms.length) : (wds ms).getD k ByteArray.empty = mkW (ms.getD k mrZ) := by
  unfold wds
  rw [List.getD_eq_getElem?_getD, List.getElem?_map, List.getD_eq_getElem?_getD, List.getElem?_eq_getElem hk]; rfl
theorem wds_take (ms : List Mrk) (k : Nat) : (wds ms).take k = wds (ms.take k) := by unfold wds; rw [List.map_take]
theorem mkW_size {m : Mrk} (h : m.1.size ≤ 6) (h1 : m.2 ≤ 999999) : (mkW m).size ≤ 13 := by
  unfold mkW
  rw [ByteArray.size_append, ByteArray.size_append]
  have h2 := (digs_len (n := m.2.toNat) (by omega)).2
  have h3 : (⟨(digs m.2.toNat).toArray⟩ : ByteArray).size = (digs m.2.toNat).length := by simp [ByteArray.size]
  have h4 : (⟨#[61]⟩ : ByteArray).size = 1 := rfl
  omega
theorem wds_size {ms : List Mrk} (h : msB ms = true) (k : Nat) : ((wds ms).getD k ByteArray.empty).size ≤ 13 := by
  by_cases hk : k < ms.length
  · rw [wds_at hk]
    have := msB_at h hk
    exact mkW_size this.1 this.2.2
  · rw [List.getD_eq_getElem?_getD, List.getElem?_eq_none (by rw [wds_len]; omega)]
    exact Nat.zero_le _
theorem jn_size : ∀ (k : Nat) (ws : List ByteArray), (∀ k, (ws.getD k ByteArray.empty).size ≤ 13) → k ≤ ws.length → (jn (ws.take k)).size ≤ 14 * k
  | 0, ws, _, _ => by simp [jn_nil, ByteArray.size]
  | k + 1, ws, h, hk => by
    have ih := jn_size k ws h (by omega)
    rw [jn_take (by omega)]
    have hx := h k
    rcases Nat.eq_zero_or_pos k with hz | hp
    · subst hz
      rw [List.take_zero, List.nil_append, jn_one]; omega
    · rw [jn_snoc (by rw [List.length_take]; omega), ByteArray.size_append, ByteArray.size_append]
      have h4 : (⟨#[44]⟩ : ByteArray).size = 1 := rfl
      omega
theorem jn_all {ws : List ByteArray} (h : ∀ k, (ws.getD k ByteArray.empty).size ≤ 13) : (jn ws).size ≤ 14 * ws.length := by
  have := jn_size ws.length ws h (Nat.le_refl _)
  rwa [List.take_length] at this

/-- The text of a super. -/
def supS (g b p t : Int) (xs : List Int) (ms : List Mrk) : ByteArray := if superB g b p t xs ms then sealS (numsS (supN g b p t xs) ++ ⟨#[124]⟩ ++ jn (wds ms)) else ⟨#[]⟩

theorem RowI.new4 (w : World) {B : Nat} (a b c d : Int) (hB : B ≤ w.heap.size) : RowI (w.alloc (.cells #[.int .i64 a, .int .i64 b, .int .i64 c, .int .i64 d] 3)) B (.slice (some ⟨w.heap.size, 0, none⟩) 4 4) [a, b, c, d] :=
  ⟨rfl, .inr ⟨_, 4, #[.int .i64 a, .int .i64 b, .int .i64 c, .int .i64 d], rfl, hB, heap_alloc_new w _, Nat.le_refl _, by unfold maxLen; omega, rfl, rfl⟩⟩
theorem iV_one' (xs : List Int) : ∀ u ∈ iV xs, u.oneCell' = true := fun u hu => by
  unfold iV at hu
  obtain ⟨x, _, rfl⟩ := List.mem_map.1 hu
  rfl
theorem iV_len' (xs : List Int) : (iV xs).length = xs.length := by unfold iV; simp
theorem grewT_refl' (t : TypeId) (B : Nat) (w : World) : GrewT t B w w := ⟨fun _ h _ => h, fun _ _ _ h _ => h, fun _ _ _ _ h => h, Nat.le_refl _⟩
theorem grewT_of' {w w' : World} {B : Nat} {v : Value} {xs : List Int} (hown : RowI w B v xs) (hg' : w.grownBy w' v.ownBlock) : GrewT 3 B w w' := by
  have hrow : ∀ k, Value.ownBlock v = some k → B ≤ k := fun k hk => (World.ownsRow.lt hown k hk).1
  refine ⟨fun b hb hbB => Below.grown hb hg' hb.size (fun k hk => Nat.le_trans hbB (hrow k hk)), fun lo hi b hb hbB => ?_, fun g t xs' ht hbg => hbg.grown hg' (hown.ne hbg ht), hg'.size⟩
  refine ⟨hg'.os.trans hb.os, hg'.tape.trans hb.tape, hg'.output.trans hb.output, Nat.le_trans hb.size hg'.size, fun k hk hr => (hg'.block k (Nat.lt_of_lt_of_le hk hb.size) fun e => ?_).trans (hb.block k hk hr)⟩
  have := hrow k e.symm
  omega
set_option maxHeartbeats 1000000 in
/-- append of a whole list of ints onto four. -/
theorem wpList_app4I {w : World} {ops : Array Oper} {rest : List Oper} {o : Oper} {a : Act} {Q : Exit → Act → World → Prop}
    (hgd : o.guard = none) (s x : Operand) (ho : o.op = .call { callee := .builtin .append, args := #[s, x], argTypes := #[22, 22] })
    (B g0 : Nat) (A : Option Addr) (c : Nat) (ys xs : List Int) (hys : ys.length = 4) (hs : a.eval s = .slice (some ⟨g0, 0, none⟩) 4 4) (hx : a.eval x = .slice A xs.length c) (hown : RowI w B (.slice (some ⟨g0, 0, none⟩) 4 4) ys) {B' : Nat} (hrow : Ins w B' A xs)
    (hm : xs.length ≤ 1048576) (hB : B ≤ w.heap.size)
    (hK : ∀ A' k' w', RowI w' B (.slice A' (xs.length + 4) k') (ys ++ xs) → GrewT 3 B w w' → wpList Tryd.prog ops Q rest (a.put o.dst (.slice A' (xs.length + 4) k')) w') :
    wpList Tryd.prog ops Q (o :: rest) a w := by
  refine wpList_plain hgd fun K hK' => ?_
  obtain ⟨i0, hi0, hz0, hz1, hz2⟩ := info_parts info_int
  rcases Nat.eq_zero_or_pos xs.length with h0 | hp
  · have hgs : xs = [] := List.eq_nil_of_length_eq_zero h0
    subst hgs
    have hrun : (Builtin.append_ #[22, 22] o.type #[.slice (some ⟨g0, 0, none⟩) 4 4, .slice A 0 c]).run Tryd.prog w = .ok (.slice (some ⟨g0, 0, none⟩) 4 4) w := by
      rcases A with _ | a'
      · simp [Builtin.append_, run_underlying Tryd.underlying22, sizeOf, typeInfo, hi0, Builtin.lenOf, Builtin.firstCells, storeCells]
      · simp [Builtin.append_, run_underlying Tryd.underlying22, sizeOf, typeInfo, hi0, Builtin.lenOf, Builtin.firstCells, storeCells, loadCells, loadCellsFrom]
    have hx' : a.eval x = .slice A 0 c := hx
    unfold Oper.wp execOp
    simp only [ho, resolve, invoke, builtin, Sem.run_bind, Sem.run_pure, Result.andThen_ok, List.map_toArray, List.map_cons, List.map_nil, hs, hx', hrun]
    exact hK' _ _ (hK _ _ w (by rw [List.append_nil]; exact hown) (grewT_refl' _ _ _))
  · obtain ⟨b, off, rfl, hb, hc⟩ := hrow (by omega)
    have hown' : w.ownsRow B 3 1 (.slice (some ⟨g0, 0, none⟩) 4 4) 4 (iV ys) := by have := hown; unfold RowI at this; rwa [hys] at this
    refine wp_append_own w s x 22 ho B 3 i0 _ 1 8 Tryd.underlying22 hi0 hz0 hz1 hz2 rfl (by omega) _ 4 _ hs hown' ⟨b, off, none⟩ xs.length c (iV xs) hx (by rw [iV_len', Nat.mul_one]) (fun j u hj => ?_) (iV_one' xs) (by unfold maxLen; omega) (by omega) hB ?_
    · have hj' : j < xs.length := by
        have := (List.getElem?_eq_some_iff.1 hj).1
        rwa [iV_len'] at this
      rw [iV_get xs j hj'] at hj
      rw [addr_add', hc j hj']
      exact hj
    · intro v' w' hw' hg' _
      have hr : RowI w' B v' (ys ++ xs) := by
        unfold RowI
        have e : (ys ++ xs).length = 4 + xs.length := by rw [List.length_append, hys]
        rw [e]
        unfold iV at hw' ⊢
        rw [List.map_append]
        exact hw'
      obtain ⟨A', k', rfl, _⟩ := hr.sl
      have e : (ys ++ xs).length = xs.length + 4 := by rw [List.length_append, hys]; omega
      rw [e] at hr ⊢
      exact hK' _ _ (hK A' k' w' hr (grewT_of' hown hg'))

/-- Words as values; a row of words that grows. -/
def wV (ws : List ByteArray) : List Value := ws.map .string
theorem wV_len (ws : List ByteArray) : (wV ws).length = ws.length := by unfold wV; simp
theorem infoS : (Tryd.prog.info? 9).map (fun i => (i.zero, i.size, i.bytes)) = some (some (.string ByteArray.empty), 1, 16) := by kernel_rfl
def RowW (w : World) (B : Nat) (v : Value) (ws : List ByteArray) : Prop := w.ownsRow B 9 1 v ws.length (wV ws)
theorem RowW.new (w : World) {B : Nat} (hB : B ≤ w.heap.size) : RowW (w.alloc (.cells #[] 9)) B (.slice (some ⟨w.heap.size, 0, none⟩) 0 0) [] :=
  ⟨rfl, .inr ⟨_, 0, #[], rfl, hB, heap_alloc_new w _, by simp, by unfold maxLen; omega, rfl, rfl⟩⟩
theorem RowW.nx {w w' : World} {B : Nat} {v : Value} {ws : List ByteArray} (h : RowW w B v ws) (hb : Nx w w') : RowW w' B v ws := by
  refine World.ownsRow.kept (row := none) h ⟨hb.os, hb.tape, hb.output, hb.size, fun i hi _ => hb.block i hi⟩ ?_
  cases hv : v.ownBlock with
  | none => exact .inl rfl
  | some g => exact .inr (by simp)
theorem wV_get (ws : List ByteArray) (i : Nat) (h : i < ws.length) : (wV ws)[i]? = some (wdAt ws i) := by
  unfold wV wdAt
  rw [List.getElem?_map, List.getElem?_eq_getElem h, List.getD_eq_getElem?_getD, List.getElem?_eq_getElem h]; rfl
theorem RowW.sl {w : World} {B : Nat} {v : Value} {ws : List ByteArray} (h : RowW w B v ws) : ∃ A c, v = .slice A ws.length c ∧ Sl w B A 9 ws.length (wdAt ws) := by
  rcases h.2 with ⟨rfl, h0⟩ | ⟨g, cap, cur, rfl, hb, hg, hnc, _, hcs, htk⟩
  · exact ⟨none, 0, by rw [h0], fun hn => by omega⟩
  · refine ⟨_, cap, rfl, Sl.own ⟨cur, hg, by omega, fun i hi => ?_⟩ hb⟩
    have h1 : (cur.toList.take (ws.length * 1))[i]? = some (wdAt ws i) := by rw [htk]; exact wV_get ws i hi
    rw [List.getElem?_take_of_lt (by omega)] at h1
    simpa using h1

theorem Nx.of_two' {a w u : World} (h : Nx a w) (k : Nx a u) : ∀ p : Addr, p.block < a.heap.size → w.cell? p = u.cell? p := fun p hp => (h.cell hp).trans (k.cell hp).symm
end Go.Proofs.YteckhdkghfidiaaDoor
