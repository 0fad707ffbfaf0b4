/-
  Texts of the proof, put together in their order: Rwi, Sta, Plm, Rub, Dok, Cp, Sw, Fl, Fmv.
  Conditions: those of each.
-/
import Derived.Test.YtehahodomfbpjaaDoorMf4
import Derived.Lib.Join
import Derived.Outline
import Derived.Deep.RegionHeld3
import Derived.Deep.AppendLies
import Derived.StillTailTactics
/- Rows of ints of the call's own that grow by one. Conditions: at most 1048576 elements. -/
namespace Go.Proofs.YtehahodomfbpjaaDoor
set_option linter.unusedVariables false
set_option maxRecDepth 100000
open Go.RowKit

def iV (xs : List Int) : List Value := xs.map fun x => .int .i64 x
theorem iV_get (xs : List Int) (i : Nat) (h : i < xs.length) : (iV xs)[i]? = some (inAt xs i) := by
  unfold iV inAt
  rw [List.getElem?_map, List.getElem?_eq_getElem h, List.getD_eq_getElem?_getD, List.getElem?_eq_getElem h]; rfl
/-- A row of ints of the call's own, from block B on. -/
def RowI (w : World) (B : Nat) (v : Value) (xs : List Int) : Prop := w.ownsRow B 3 1 v xs.length (iV xs)
theorem RowI.new (w : World) {B : Nat} (hB : B ≤ w.heap.size) : RowI (w.alloc (.cells #[] 3)) B (.slice (some ⟨w.heap.size, 0, none⟩) 0 0) [] :=
  ⟨rfl, .inr ⟨_, 0, #[], rfl, hB, heap_alloc_new w _, by simp, by unfold maxLen; omega, rfl, rfl⟩⟩
theorem RowI.sl {w : World} {B : Nat} {v : Value} {xs : List Int} (h : RowI w B v xs) : ∃ A c, v = .slice A xs.length c ∧ Sl w B A 3 xs.length (inAt xs) := by
  rcases h.2 with ⟨rfl, h0⟩ | ⟨g, cap, cur, rfl, hb, hg, hnc, _, hcs, htk⟩
  · exact ⟨none, 0, by rw [h0], fun hn => by omega⟩
  · refine ⟨_, cap, rfl, Sl.own ⟨cur, hg, by omega, fun i hi => ?_⟩ hb⟩
    have h1 : (cur.toList.take (xs.length * 1))[i]? = some (inAt xs i) := by rw [htk]; exact iV_get xs i hi
    rw [List.getElem?_take_of_lt (by omega)] at h1
    simpa using h1
theorem RowI.nx {w w' : World} {B : Nat} {v : Value} {xs : List Int} (h : RowI w B v xs) (hb : Nx w w') : RowI w' B v xs := by
  refine World.ownsRow.kept (row := none) h ⟨hb.os, hb.tape, hb.output, hb.size, fun i hi _ => hb.block i hi⟩ ?_
  cases hv : v.ownBlock with
  | none => exact .inl rfl
  | some g => exact .inr (by simp)
theorem RowI.rg {w w' : World} {B lo hi : Nat} {v : Value} {xs : List Int} (h : RowI w B v xs) (hr : Rg lo hi w w') (hh : hi ≤ B) : RowI w' B v xs := by
  rcases h.2 with ⟨rfl, h0⟩ | ⟨g, cap, cur, rfl, hb, hg, r⟩
  · exact ⟨h.1, .inl ⟨rfl, h0⟩⟩
  · have hlt := (World.ownsRow.lt h g rfl).2
    exact ⟨h.1, .inr ⟨g, cap, cur, rfl, hb, (hr.block g hlt (.inr (by omega))).trans hg, r⟩⟩
theorem RowI.ne {w : World} {B g : Nat} {v : Value} {xs : List Int} {t : TypeId} {ys : Array Value} (h : RowI w B v xs) (hb : Box w g t ys) (ht : t ≠ 3) : some g ≠ v.ownBlock := by
  intro he
  rcases h.2 with ⟨rfl, _⟩ | ⟨g', cap, cur, rfl, _, hg, _⟩
  · simp [Value.ownBlock] at he
  · obtain rfl : g = g' := by simpa [Value.ownBlock] using he
    unfold Box at hb
    rw [hg] at hb
    injection hb with hb
    injection hb with _ hb
    exact ht hb.symm
/-- What an append leaves as it is: blocks below B, and known blocks of another type. -/
structure GrewT (t : TypeId) (B : Nat) (w w' : World) : Prop where
  nx : ∀ a, Nx a w → a.heap.size ≤ B → Nx a w'
  rg : ∀ lo hi a, Rg lo hi a w → a.heap.size ≤ B → Rg lo hi a w'
  box : ∀ g t' xs, t' ≠ t → Box w g t' xs → Box w' g t' xs
  size : w.heap.size ≤ w'.heap.size
theorem RowI.nil (w : World) (B : Nat) : RowI w B (.slice none 0 0) [] := ⟨rfl, .inl ⟨rfl, rfl⟩⟩
end Go.Proofs.YtehahodomfbpjaaDoor
/- What the text of a super is: its numbers, its words; laws on lists of words; append of a whole list of ints onto four; rows of words that grow. Conditions: what is read can be read. -/
namespace Go.Proofs.YtehahodomfbpjaaDoor
set_option linter.unusedVariables false
set_option maxRecDepth 100000
open Go.RowKit

/-- The numbers of a super. -/
def supL (g b p t : Int) (xs : List Int) : List Int := [g, b, p, t] ++ xs
def supN (g b p t : Int) (xs : List Int) : List Nat := (supL g b p t xs).map Int.toNat
theorem supL_len (g b p t : Int) (xs : List Int) : (supL g b p t xs).length = xs.length + 4 := by unfold supL; simp
theorem supN_len (g b p t : Int) (xs : List Int) : (supN g b p t xs).length = xs.length + 4 := by unfold supN; rw [List.length_map, supL_len]
theorem superB_yes {g b p t : Int} {xs : List Int} {ms : List Mrk} (h : superB g b p t xs ms = true) :
    (1 ≤ g ∧ g ≤ 999999) ∧ (0 ≤ b ∧ b ≤ 999999) ∧ (b ≤ p ∧ p ≤ 999999) ∧ (b ≤ t ∧ t ≤ 999999) ∧ tbB xs = true ∧ msB ms = true := by
  unfold superB at h
  simp only [Bool.and_eq_true] at h
  exact ⟨inB_yes h.1.1.1.1.1, inB_yes h.1.1.1.1.2, inB_yes h.1.1.1.2, inB_yes h.1.1.2, h.1.2, h.2⟩
theorem tbB_in {xs : List Int} (h : tbB xs = true) {x : Int} (hx : x ∈ xs) : 10 ≤ x ∧ x ≤ 63 := by
  obtain ⟨_, hto⟩ := tbB_yes h
  obtain ⟨i, hi, rfl⟩ := List.getElem_of_mem hx
  have h1 := hto i hi
  unfold tbOk at h1
  rw [Bool.and_eq_true] at h1
  have h2 := inB_yes h1.1
  rwa [List.getD_eq_getElem?_getD, List.getElem?_eq_getElem hi, Option.getD_some] at h2
theorem supL_in {g b p t : Int} {xs : List Int} {ms : List Mrk} (h : superB g b p t xs ms = true) : ∀ x ∈ supL g b p t xs, 0 ≤ x ∧ x ≤ 999999 := by
  obtain ⟨h0, h1, h2, h3, h4, _⟩ := superB_yes h
  intro x hx
  unfold supL at hx
  simp only [List.mem_append, List.mem_cons, List.not_mem_nil, or_false] at hx
  rcases hx with (rfl | rfl | rfl | rfl) | hx
  · omega
  · omega
  · omega
  · omega
  · have := tbB_in h4 hx; omega
theorem supN_all {g b p t : Int} {xs : List Int} {ms : List Mrk} (h : superB g b p t xs ms = true) : All6 (supN g b p t xs) := fun k hk => by
  have hk' : k < (supL g b p t xs).length := by unfold supN at hk; rwa [List.length_map] at hk
  unfold supN
  rw [List.getD_eq_getElem?_getD, List.getElem?_map, List.getElem?_eq_getElem hk', Option.map_some, Option.getD_some]
  have := supL_in h _ (List.getElem_mem hk')
  omega
theorem supN_row {g b p t : Int} {xs : List Int} {ms : List Mrk} (h : superB g b p t xs ms = true) {w : World} {B n : Nat} {A : Option Addr} (hn : n = (supN g b p t xs).length) (hr : Row w B A n (inAt (supL g b p t xs))) : Row w B A (supN g b p t xs).length (intAt (supN g b p t xs)) := by
  subst hn
  intro hm
  obtain ⟨bb, off, e, hb, hc⟩ := hr hm
  refine ⟨bb, off, e, hb, fun i hi => ?_⟩
  rw [hc i hi]
  have hk' : i < (supL g b p t xs).length := by unfold supN at hi; rwa [List.length_map] at hi
  unfold inAt intAt supN
  rw [List.getD_eq_getElem?_getD, List.getElem?_eq_getElem hk', Option.getD_some, List.getD_eq_getElem?_getD, List.getElem?_map, List.getElem?_eq_getElem hk', Option.map_some, Option.getD_some]
  have := supL_in h _ (List.getElem_mem hk')
  rw [Int.toNat_of_nonneg this.1]
theorem msB_at {ms : List Mrk} (h : msB ms = true) {k : Nat} (hk : k < ms.length) : (ms.getD k mrZ).1.size ≤ 6 ∧ 0 ≤ (ms.getD k mrZ).2 ∧ (ms.getD k mrZ).2 ≤ 999999 := by
  have h1 := (msB_yes h).2 k hk
  unfold okMk mkB nmB at h1
  simp only [Bool.and_eq_true] at h1
  have h2 := inB_yes h1.1.1.1
  have h3 := inB_yes h1.1.2
  omega

/-- The word of a mark. -/
def mkW (m : Mrk) : ByteArray := m.1 ++ ⟨#[61]⟩ ++ ⟨(digs m.2.toNat).toArray⟩
def wds (ms : List Mrk) : List ByteArray := ms.map mkW
theorem wds_len (ms : List Mrk) : (wds ms).length = ms.length := by unfold wds; simp
def wdAt (ws : List ByteArray) (i : Nat) : Value := .string (ws.getD i ByteArray.empty)
/-- Words with signs between. -/
def jn (ws : List ByteArray) : ByteArray := ⟨(Lib.join (ws.map (·.data.toList)) [44]).toArray⟩
theorem jn_nil : jn [] = ⟨#[]⟩ := rfl
theorem jn_one (x : ByteArray) : jn [x] = x := by
  unfold jn
  rw [List.map_cons, List.map_nil, Lib.join_one]
theorem jn_snoc {ws : List ByteArray} (h : 0 < ws.length) (y : ByteArray) : jn (ws ++ [y]) = jn ws ++ ⟨#[44]⟩ ++ y := by
  rcases ws with _ | ⟨x, r⟩
  · simp at h
  · have e : (jn ((x :: r) ++ [y])).data.toList = (jn (x :: r) ++ ⟨#[44]⟩ ++ y).data.toList := by
      rw [ba_app, ba_app]
      unfold jn
      simp only [List.cons_append, List.map_cons, List.map_append, List.map_nil, Lib.join_cons]
      unfold Lib.joinTail
      simp
    have e2 := ba_eq e
    rw [e2]
theorem jn_take {ws : List ByteArray} {k : Nat} (hk : k < ws.length) : ws.take (k + 1) = ws.take k ++ [ws.getD k ByteArray.empty] := by
  rw [List.take_succ_eq_append_getElem hk, List.getD_eq_getElem?_getD, List.getElem?_eq_getElem hk, Option.getD_some]
theorem wds_at {ms : List Mrk} {k : Nat} (hk : k < ms.length) : (wds ms).getD k ByteArray.empty = mkW (ms.getD k mrZ) := by
  unfold wds
  rw [List.getD_eq_getElem?_getD, List.getElem?_map, List.getD_eq_getElem?_getD, List.getElem?_eq_getElem hk]; rfl
theorem wds_take (ms : List Mrk) (k : Nat) : (wds ms).take k = wds (ms.take k) := by unfold wds; rw [List.map_take]
theorem mkW_size {m : Mrk} (h : m.1.size ≤ 6) (h1 : m.2 ≤ 999999) : (mkW m).size ≤ 13 := by
  unfold mkW
  rw [ByteArray.size_append, ByteArray.size_append]
  have h2 := (digs_len (n := m.2.toNat) (by omega)).2
  have h3 : (⟨(digs m.2.toNat).toArray⟩ : ByteArray).size = (digs m.2.toNat).length := by simp [ByteArray.size]
  have h4 : (⟨#[61]⟩ : ByteArray).size = 1 := rfl
  omega
theorem wds_size {ms : List Mrk} (h : msB ms = true) (k : Nat) : ((wds ms).getD k ByteArray.empty).size ≤ 13 := by
  by_cases hk : k < ms.length
  · rw [wds_at hk]
    have := msB_at h hk
    exact mkW_size this.1 this.2.2
  · rw [List.getD_eq_getElem?_getD, List.getElem?_eq_none (by rw [wds_len]; omega)]
    exact Nat.zero_le _
theorem jn_size : ∀ (k : Nat) (ws : List ByteArray), (∀ k, (ws.getD k ByteArray.empty).size ≤ 13) → k ≤ ws.length → (jn (ws.take k)).size ≤ 14 * k
  | 0, ws, _, _ => by simp [jn_nil, ByteArray.size]
  | k + 1, ws, h, hk => by
    have ih := jn_size k ws h (by omega)
    rw [jn_take (by omega)]
    have hx := h k
    rcases Nat.eq_zero_or_pos k with hz | hp
    · subst hz
      rw [List.take_zero, List.nil_append, jn_one]; omega
    · rw [jn_snoc (by rw [List.length_take]; omega), ByteArray.size_append, ByteArray.size_append]
      have h4 : (⟨#[44]⟩ : ByteArray).size = 1 := rfl
      omega
theorem jn_all {ws : List ByteArray} (h : ∀ k, (ws.getD k ByteArray.empty).size ≤ 13) : (jn ws).size ≤ 14 * ws.length := by
  have := jn_size ws.length ws h (Nat.le_refl _)
  rwa [List.take_length] at this

theorem RowI.new4 (w : World) {B : Nat} (a b c d : Int) (hB : B ≤ w.heap.size) : RowI (w.alloc (.cells #[.int .i64 a, .int .i64 b, .int .i64 c, .int .i64 d] 3)) B (.slice (some ⟨w.heap.size, 0, none⟩) 4 4) [a, b, c, d] :=
  ⟨rfl, .inr ⟨_, 4, #[.int .i64 a, .int .i64 b, .int .i64 c, .int .i64 d], rfl, hB, heap_alloc_new w _, Nat.le_refl _, by unfold maxLen; omega, rfl, rfl⟩⟩
theorem iV_one' (xs : List Int) : ∀ u ∈ iV xs, u.oneCell' = true := fun u hu => by
  unfold iV at hu
  obtain ⟨x, _, rfl⟩ := List.mem_map.1 hu
  rfl
theorem iV_len' (xs : List Int) : (iV xs).length = xs.length := by unfold iV; simp
theorem grewT_refl' (t : TypeId) (B : Nat) (w : World) : GrewT t B w w := ⟨fun _ h _ => h, fun _ _ _ h _ => h, fun _ _ _ _ h => h, Nat.le_refl _⟩
theorem grewT_of' {w w' : World} {B : Nat} {v : Value} {xs : List Int} (hown : RowI w B v xs) (hg' : w.grownBy w' v.ownBlock) : GrewT 3 B w w' := by
  have hrow : ∀ k, Value.ownBlock v = some k → B ≤ k := fun k hk => (World.ownsRow.lt hown k hk).1
  refine ⟨fun b hb hbB => Below.grown hb hg' hb.size (fun k hk => Nat.le_trans hbB (hrow k hk)), fun lo hi b hb hbB => ?_, fun g t xs' ht hbg => hbg.grown hg' (hown.ne hbg ht), hg'.size⟩
  refine ⟨hg'.os.trans hb.os, hg'.tape.trans hb.tape, hg'.output.trans hb.output, Nat.le_trans hb.size hg'.size, fun k hk hr => (hg'.block k (Nat.lt_of_lt_of_le hk hb.size) fun e => ?_).trans (hb.block k hk hr)⟩
  have := hrow k e.symm
  omega
set_option maxHeartbeats 1000000 in
/-- append of a whole list of ints onto four. -/
theorem wpList_app4I {w : World} {ops : Array Oper} {rest : List Oper} {o : Oper} {a : Act} {Q : Exit → Act → World → Prop}
    (hgd : o.guard = none) (s x : Operand) (ho : o.op = .call { callee := .builtin .append, args := #[s, x], argTypes := #[22, 22] })
    (B g0 : Nat) (A : Option Addr) (c : Nat) (ys xs : List Int) (hys : ys.length = 4) (hs : a.eval s = .slice (some ⟨g0, 0, none⟩) 4 4) (hx : a.eval x = .slice A xs.length c) (hown : RowI w B (.slice (some ⟨g0, 0, none⟩) 4 4) ys) {B' : Nat} (hrow : Ins w B' A xs)
    (hm : xs.length ≤ 1048576) (hB : B ≤ w.heap.size)
    (hK : ∀ A' k' w', RowI w' B (.slice A' (xs.length + 4) k') (ys ++ xs) → GrewT 3 B w w' → wpList Tryd.prog ops Q rest (a.put o.dst (.slice A' (xs.length + 4) k')) w') :
    wpList Tryd.prog ops Q (o :: rest) a w := by
  refine wpList_plain hgd fun K hK' => ?_
  obtain ⟨i0, hi0, hz0, hz1, hz2⟩ := info_parts info_int
  rcases Nat.eq_zero_or_pos xs.length with h0 | hp
  · have hgs : xs = [] := List.eq_nil_of_length_eq_zero h0
    subst hgs
    have hrun : (Builtin.append_ #[22, 22] o.type #[.slice (some ⟨g0, 0, none⟩) 4 4, .slice A 0 c]).run Tryd.prog w = .ok (.slice (some ⟨g0, 0, none⟩) 4 4) w := by
      rcases A with _ | a'
      · simp [Builtin.append_, run_underlying Tryd.underlying22, sizeOf, typeInfo, hi0, Builtin.lenOf, Builtin.firstCells, storeCells]
      · simp [Builtin.append_, run_underlying Tryd.underlying22, sizeOf, typeInfo, hi0, Builtin.lenOf, Builtin.firstCells, storeCells, loadCells, loadCellsFrom]
    have hx' : a.eval x = .slice A 0 c := hx
    unfold Oper.wp execOp
    simp only [ho, resolve, invoke, builtin, Sem.run_bind, Sem.run_pure, Result.andThen_ok, List.map_toArray, List.map_cons, List.map_nil, hs, hx', hrun]
    exact hK' _ _ (hK _ _ w (by rw [List.append_nil]; exact hown) (grewT_refl' _ _ _))
  · obtain ⟨b, off, rfl, hb, hc⟩ := hrow (by omega)
    have hown' : w.ownsRow B 3 1 (.slice (some ⟨g0, 0, none⟩) 4 4) 4 (iV ys) := by have := hown; unfold RowI at this; rwa [hys] at this
    refine wp_append_own w s x 22 ho B 3 i0 _ 1 8 Tryd.underlying22 hi0 hz0 hz1 hz2 rfl (by omega) _ 4 _ hs hown' ⟨b, off, none⟩ xs.length c (iV xs) hx (by rw [iV_len', Nat.mul_one]) (fun j u hj => ?_) (iV_one' xs) (by unfold maxLen; omega) (by omega) hB ?_
    · have hj' : j < xs.length := by
        have := (List.getElem?_eq_some_iff.1 hj).1
        rwa [iV_len'] at this
      rw [iV_get xs j hj'] at hj
      rw [addr_add', hc j hj']
      exact hj
    · intro v' w' hw' hg' _
      have hr : RowI w' B v' (ys ++ xs) := by
        unfold RowI
        have e : (ys ++ xs).length = 4 + xs.length := by rw [List.length_append, hys]
        rw [e]
        unfold iV at hw' ⊢
        rw [List.map_append]
        exact hw'
      obtain ⟨A', k', rfl, _⟩ := hr.sl
      have e : (ys ++ xs).length = xs.length + 4 := by rw [List.length_append, hys]; omega
      rw [e] at hr ⊢
      exact hK' _ _ (hK A' k' w' hr (grewT_of' hown hg'))

/-- Words as values; a row of words that grows. -/
def wV (ws : List ByteArray) : List Value := ws.map .string
theorem infoS : (Tryd.prog.info? 9).map (fun i => (i.zero, i.size, i.bytes)) = some (some (.string ByteArray.empty), 1, 16) := by kernel_rfl
def RowW (w : World) (B : Nat) (v : Value) (ws : List ByteArray) : Prop := w.ownsRow B 9 1 v ws.length (wV ws)
theorem RowW.new (w : World) {B : Nat} (hB : B ≤ w.heap.size) : RowW (w.alloc (.cells #[] 9)) B (.slice (some ⟨w.heap.size, 0, none⟩) 0 0) [] :=
  ⟨rfl, .inr ⟨_, 0, #[], rfl, hB, heap_alloc_new w _, by simp, by unfold maxLen; omega, rfl, rfl⟩⟩
theorem RowW.nx {w w' : World} {B : Nat} {v : Value} {ws : List ByteArray} (h : RowW w B v ws) (hb : Nx w w') : RowW w' B v ws := by
  refine World.ownsRow.kept (row := none) h ⟨hb.os, hb.tape, hb.output, hb.size, fun i hi _ => hb.block i hi⟩ ?_
  cases hv : v.ownBlock with
  | none => exact .inl rfl
  | some g => exact .inr (by simp)
theorem wV_get (ws : List ByteArray) (i : Nat) (h : i < ws.length) : (wV ws)[i]? = some (wdAt ws i) := by
  unfold wV wdAt
  rw [List.getElem?_map, List.getElem?_eq_getElem h, List.getD_eq_getElem?_getD, List.getElem?_eq_getElem h]; rfl
theorem RowW.sl {w : World} {B : Nat} {v : Value} {ws : List ByteArray} (h : RowW w B v ws) : ∃ A c, v = .slice A ws.length c ∧ Sl w B A 9 ws.length (wdAt ws) := by
  rcases h.2 with ⟨rfl, h0⟩ | ⟨g, cap, cur, rfl, hb, hg, hnc, _, hcs, htk⟩
  · exact ⟨none, 0, by rw [h0], fun hn => by omega⟩
  · refine ⟨_, cap, rfl, Sl.own ⟨cur, hg, by omega, fun i hi => ?_⟩ hb⟩
    have h1 : (cur.toList.take (ws.length * 1))[i]? = some (wdAt ws i) := by rw [htk]; exact wV_get ws i hi
    rw [List.getElem?_take_of_lt (by omega)] at h1
    simpa using h1

theorem Nx.of_two' {a w u : World} (h : Nx a w) (k : Nx a u) : ∀ p : Addr, p.block < a.heap.size → w.cell? p = u.cell? p := fun p hp => (h.cell hp).trans (k.cell hp).symm
end Go.Proofs.YtehahodomfbpjaaDoor
/- Plain numbers: digits with none needless ahead. Contracts of the program's numberOf and plainNumberOf, and of the model's l00Digits, l00Number and l04Number. Conditions: numbers of at most 18 digits; texts of at most 65536 bytes; the package's errors are known. -/
namespace Go.Proofs.YtehahodomfbpjaaDoor
set_option linter.unusedVariables false
set_option maxRecDepth 100000
open Go.RowKit

end Go.Proofs.YtehahodomfbpjaaDoor
/- The text of a right super is read back as that super. Conditions: none. -/
namespace Go.Proofs.YtehahodomfbpjaaDoor
set_option linter.unusedVariables false
set_option maxRecDepth 100000
open Go.RowKit

/-- The text of a super. -/
def supT (g b p t : Int) (xs : List Int) (ms : List Mrk) : ByteArray := sealS (numsS (supN g b p t xs) ++ ⟨#[124]⟩ ++ jn (wds ms))
end Go.Proofs.YtehahodomfbpjaaDoor
/- Contracts of DiskOK, as the model and as the program have it: both answer the same bool of what the disk holds. Conditions: the disk can be read, and holds at most 1048576 elements of a kind. -/
namespace Go.Proofs.YtehahodomfbpjaaDoor
set_option linter.unusedVariables false
set_option maxRecDepth 100000
open Go.RowKit

/-- The first k elements of a list pass. -/
def AllTo {α : Type} (p : α → Bool) (l : List α) (k : Nat) : Prop := (l.take k).all p = true
theorem AllTo.zero {α : Type} (p : α → Bool) (l : List α) : AllTo p l 0 := by simp [AllTo]
theorem AllTo.succ {α : Type} {p : α → Bool} {l : List α} {k : Nat} {d x : α} (h : AllTo p l k) (hk : k < l.length) (hx : l.getD k d = x) (hp : p x = true) : AllTo p l (k + 1) := by
  unfold AllTo at h ⊢
  rw [List.take_succ_eq_append_getElem hk, List.all_append, h]
  have : l[k] = x := by rw [← hx, List.getD_eq_getElem?_getD, List.getElem?_eq_getElem hk]; rfl
  simp [this, hp]
theorem AllTo.all {α : Type} {p : α → Bool} {l : List α} {k : Nat} (h : AllTo p l k) (hk : l.length = k) : l.all p = true := by
  unfold AllTo at h
  rwa [List.take_of_length_le (by omega)] at h
end Go.Proofs.YtehahodomfbpjaaDoor
/- Contracts of the program's functions that copy lists and disks. Conditions: what is copied can be read, and holds at most 1048576 elements of a kind. -/
namespace Go.Proofs.YtehahodomfbpjaaDoor
set_option linter.unusedVariables false
set_option maxRecDepth 100000
open Go.RowKit

end Go.Proofs.YtehahodomfbpjaaDoor
/- Contracts of the model's functions that own and write disks. Conditions: what is copied can be read, and holds at most 1048575 elements of a kind. -/
namespace Go.Proofs.YtehahodomfbpjaaDoor
set_option linter.unusedVariables false
set_option maxRecDepth 100000
open Go.RowKit

end Go.Proofs.YtehahodomfbpjaaDoor
/- Contracts of the functions that settle the writes of a disk, as the model and as the program have them. Conditions: the disk is right, and can be read. -/
namespace Go.Proofs.YtehahodomfbpjaaDoor
set_option linter.unusedVariables false
set_option maxRecDepth 100000
open Go.RowKit

theorem strAt_set (ss : List ByteArray) (a : Nat) (s : ByteArray) (ha : a < ss.length) (i : Nat) : strAt (ss.set a s) i = if i = a then .string s else strAt ss i := by
  unfold strAt
  rw [List.getD_eq_getElem?_getD, List.getElem?_set]
  by_cases h : a = i
  · subst h; rw [if_pos rfl, if_pos rfl, if_pos ha]; rfl
  · rw [if_neg h, if_neg (fun e => h e.symm), ← List.getD_eq_getElem?_getD]
/-- The row of sure texts, as it is being settled. -/
def SetRow (w : World) (g : Nat) (ss : List ByteArray) : Prop := Own w g 9 64 (strAt ss)
theorem SetRow.set {w : World} {g a : Nat} {ss : List ByteArray} {s : ByteArray} (h : SetRow w g ss) (ha : a < 64) (hl : ss.length = 64) : SetRow (w.setCell ⟨g, a, none⟩ (.string s)) g (ss.set a s) := by
  unfold SetRow at h ⊢
  refine (h.set ha (.string s)).congr fun i _ => ?_
  rw [strAt_set ss a s (by omega) i]

end Go.Proofs.YtehahodomfbpjaaDoor
/- Values of a vault that is new: the disk that has it. Nothing here speaks of memory. Conditions: none. -/
namespace Go.Proofs.YtehahodomfbpjaaDoor
set_option linter.unusedVariables false
set_option maxRecDepth 100000
open Go.RowKit

/-- The sure texts of a new vault: its super, the first k numbers of its image. -/
def fmT (c : List Int) : Nat → List ByteArray
  | 0 => noS.set 0 (supT 1 0 0 0 [] [])
  | k + 1 => (fmT c k).set (2 + k) (sealS (numsS [(c.getD k 0).toNat]))
theorem fmT_len (c : List Int) : ∀ k, (fmT c k).length = 64
  | 0 => by show (noS.set 0 _).length = 64; rw [List.length_set, noS_len]
  | k + 1 => by show ((fmT c k).set _ _).length = 64; rw [List.length_set, fmT_len c k]
/-- What FormatVault answers. -/
def fmP (c : List Int) : (List ByteArray × List (Int × ByteArray)) × Int := if askC c true = 0 then ((fmT c 8, []), 0) else (([], []), askC c true)
theorem askC_zero {c : List Int} (h : askC c true = 0) : contB c = true := by
  unfold askC at h
  split at h
  · exact absurd h (by decide)
  · split at h
    · rename_i hc; rw [Bool.and_eq_true] at hc; exact hc.1
    · exact absurd h (by decide)
theorem fmP_yes {c : List Int} (h : contB c = true) : fmP c = ((fmT c 8, []), 0) := by
  have h8 := (contB_yes h).1
  unfold fmP
  rw [if_pos]
  unfold askC
  rw [if_neg (by omega), h]; rfl
theorem fmP_no {c : List Int} (h : ¬ askC c true = 0) : fmP c = (([], []), askC c true) := by unfold fmP; rw [if_neg h]
theorem fmP_long {c : List Int} (h : 4096 < c.length) : fmP c = (([], []), 2) := by
  have e := (askC_long h true).1
  rw [fmP_no (by rw [e]; decide), e]
theorem fmP_bad {c : List Int} (h : ¬ 4096 < c.length) (h2 : contB c = false) : fmP c = (([], []), 1) := by
  have e : askC c true = 1 := by unfold askC; rw [if_neg h, h2]; rfl
  rw [fmP_no (by rw [e]; decide), e]
theorem fmP_len {c : List Int} {R1 : List ByteArray} {R2 : List (Int × ByteArray)} {cd : Int} (h : fmP c = ((R1, R2), cd)) : R1.length ≤ 64 ∧ R2.length ≤ 80 := by
  unfold fmP at h
  split at h
  · injection h with h _; injection h with h1 h2; subst h1 h2; exact ⟨Nat.le_of_eq (fmT_len c 8), Nat.zero_le _⟩
  · injection h with h _; injection h with h1 h2; subst h1 h2; exact ⟨Nat.zero_le _, Nat.zero_le _⟩
theorem super_new : superB 1 0 0 0 [] [] = true := by decide
theorem numsS_one (n : Nat) : numsS [n] = ⟨(pad 6 n).toArray⟩ := by
  unfold numsS
  show (⟨(pad 6 n ++ []).toArray⟩ : ByteArray) = _
  rw [List.append_nil]
end Go.Proofs.YtehahodomfbpjaaDoor
