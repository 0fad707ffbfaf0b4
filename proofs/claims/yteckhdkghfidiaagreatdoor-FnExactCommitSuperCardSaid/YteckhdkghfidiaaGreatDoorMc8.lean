/-
  Texts of the proof, put together in their order: Rwi, Sta, Shc, Ctm.
  Conditions: those of each.
-/
import Derived.Test.YteckhdkghfidiaaGreatDoorMc7
import Derived.Lib.Join
import Derived.Shelf.Strings.Cut
import Derived.Shelf.Strings.Split
import Derived.Test.YteckhdkghfidiaaGreatDoorProg
import Derived.Deep.AppendLies
/- Rows of ints of the call's own that grow by one. Conditions: at most 1048576 elements. -/
namespace Go.Proofs.YteckhdkghfidiaaGreatDoor
set_option linter.unusedVariables false
set_option maxRecDepth 100000
open Go.RowKit

def iV (xs : List Int) : List Value := xs.map fun x => .int .i64 x
theorem iV_get (xs : List Int) (i : Nat) (h : i < xs.length) : (iV xs)[i]? = some (inAt xs i) := by
  unfold iV inAt
  rw [List.getElem?_map, List.getElem?_eq_getElem h, List.getD_eq_getElem?_getD, List.getElem?_eq_getElem h]; rfl
/-- A row of ints of the call's own, from block B on. -/
def RowI (w : World) (B : Nat) (v : Value) (xs : List Int) : Prop := w.ownsRow B 3 1 v xs.length (iV xs)
theorem RowI.new (w : World) {B : Nat} (hB : B ≤ w.heap.size) : RowI (w.alloc (.cells #[] 3)) B (.slice (some ⟨w.heap.size, 0, none⟩) 0 0) [] :=
  ⟨rfl, .inr ⟨_, 0, #[], rfl, hB, heap_alloc_new w _, by simp, by unfold maxLen; omega, rfl, rfl⟩⟩
theorem RowI.sl {w : World} {B : Nat} {v : Value} {xs : List Int} (h : RowI w B v xs) : ∃ A c, v = .slice A xs.length c ∧ Sl w B A 3 xs.length (inAt xs) := by
  rcases h.2 with ⟨rfl, h0⟩ | ⟨g, cap, cur, rfl, hb, hg, hnc, _, hcs, htk⟩
  · exact ⟨none, 0, by rw [h0], fun hn => by omega⟩
  · refine ⟨_, cap, rfl, Sl.own ⟨cur, hg, by omega, fun i hi => ?_⟩ hb⟩
    have h1 : (cur.toList.take (xs.length * 1))[i]? = some (inAt xs i) := by rw [htk]; exact iV_get xs i hi
    rw [List.getElem?_take_of_lt (by omega)] at h1
    simpa using h1
theorem RowI.nx {w w' : World} {B : Nat} {v : Value} {xs : List Int} (h : RowI w B v xs) (hb : Nx w w') : RowI w' B v xs := by
  refine World.ownsRow.kept (row := none) h ⟨hb.os, hb.tape, hb.output, hb.size, fun i hi _ => hb.block i hi⟩ ?_
  cases hv : v.ownBlock with
  | none => exact .inl rfl
  | some g => exact .inr (by simp)
theorem RowI.rg {w w' : World} {B lo hi : Nat} {v : Value} {xs : List Int} (h : RowI w B v xs) (hr : Rg lo hi w w') (hh : hi ≤ B) : RowI w' B v xs := by
  rcases h.2 with ⟨rfl, h0⟩ | ⟨g, cap, cur, rfl, hb, hg, r⟩
  · exact ⟨h.1, .inl ⟨rfl, h0⟩⟩
  · have hlt := (World.ownsRow.lt h g rfl).2
    exact ⟨h.1, .inr ⟨g, cap, cur, rfl, hb, (hr.block g hlt (.inr (by omega))).trans hg, r⟩⟩
theorem RowI.ne {w : World} {B g : Nat} {v : Value} {xs : List Int} {t : TypeId} {ys : Array Value} (h : RowI w B v xs) (hb : Box w g t ys) (ht : t ≠ 3) : some g ≠ v.ownBlock := by
  intro he
  rcases h.2 with ⟨rfl, _⟩ | ⟨g', cap, cur, rfl, _, hg, _⟩
  · simp [Value.ownBlock] at he
  · obtain rfl : g = g' := by simpa [Value.ownBlock] using he
    unfold Box at hb
    rw [hg] at hb
    injection hb with hb
    injection hb with _ hb
    exact ht hb.symm
/-- What an append leaves as it is: blocks below B, and known blocks of another type. -/
structure GrewT (t : TypeId) (B : Nat) (w w' : World) : Prop where
  nx : ∀ a, Nx a w → a.heap.size ≤ B → Nx a w'
  rg : ∀ lo hi a, Rg lo hi a w → a.heap.size ≤ B → Rg lo hi a w'
  box : ∀ g t' xs, t' ≠ t → Box w g t' xs → Box w' g t' xs
  size : w.heap.size ≤ w'.heap.size
set_option maxHeartbeats 1000000 in
/-- append of one int at the operation, for the walk. -/
theorem wpList_addI {w : World} {ops : Array Oper} {rest : List Oper} {o : Oper} {a : Act} {Q : Exit → Act → World → Prop}
    (hgd : o.guard = none) (s x : Operand) (ho : o.op = .call { callee := .builtin .append, args := #[s, x], argTypes := #[23, 23] })
    (B gd : Nat) (v : Value) (xs : List Int) (x0 : Int) (hs : a.eval s = v) (hx : a.eval x = .slice (some ⟨gd, 0, none⟩) 1 1) (hown : RowI w B v xs) (hbx : Box w gd 3 #[.int .i64 x0])
    (hl : xs.length ≤ 1048576) (hB : B ≤ w.heap.size)
    (hK : ∀ A' k' w', RowI w' B (.slice A' (xs.length + 1) k') (xs ++ [x0]) → GrewT 3 B w w' → wpList Tryz.prog ops Q rest (a.put o.dst (.slice A' (xs.length + 1) k')) w') :
    wpList Tryz.prog ops Q (o :: rest) a w := by
  obtain ⟨i0, hi0, hz0, hz1, hz2⟩ := info_parts info_int
  refine wpList_append_own w hgd s x 23 ho B 3 i0 _ 1 8 Tryz.underlying23 hi0 hz0 hz1 hz2 rfl (by omega) v xs.length _ hs hown ⟨gd, 0, none⟩ 1 1 [.int .i64 x0] hx rfl (fun j u hj => ?_) (fun u hu => by simp only [List.mem_cons, List.not_mem_nil, or_false] at hu; rcases hu with rfl; rfl) (by unfold maxLen; omega) (by omega) hB ?_
  · rw [addr_add', Nat.zero_add, hbx.cell j]
    rw [← hj]
    rcases j with _ | j <;> simp
  · intro v' w' hw' hg' _
    have hr : RowI w' B v' (xs ++ [x0]) := by
      unfold RowI iV
      rw [List.map_append, List.length_append]
      exact hw'
    obtain ⟨A', k', rfl, _⟩ := hr.sl
    rw [List.length_append] at hr ⊢
    have hrow : ∀ k, Value.ownBlock v = some k → B ≤ k := fun k hk => (World.ownsRow.lt hown k hk).1
    refine hK A' k' w' hr ⟨fun b hb hbB => Below.grown hb hg' hb.size (fun k hk => Nat.le_trans hbB (hrow k hk)), fun lo hi b hb hbB => ?_, fun g t xs' ht hbg => hbg.grown hg' (hown.ne hbg ht), hg'.size⟩
    refine ⟨hg'.os.trans hb.os, hg'.tape.trans hb.tape, hg'.output.trans hb.output, Nat.le_trans hb.size hg'.size, fun k hk hr => (hg'.block k (Nat.lt_of_lt_of_le hk hb.size) fun e => ?_).trans (hb.block k hk hr)⟩
    have := hrow k e.symm
    omega
theorem RowI.nil (w : World) (B : Nat) : RowI w B (.slice none 0 0) [] := ⟨rfl, .inl ⟨rfl, rfl⟩⟩
theorem RowI.slc {w : World} {B : Nat} {v : Value} {xs : List Int} (h : RowI w B v xs) : ∃ A c, v = .slice A xs.length c ∧ xs.length ≤ c ∧ Sl w B A 3 xs.length (inAt xs) := by
  rcases h.2 with ⟨rfl, h0⟩ | ⟨g, cap, cur, rfl, hb, hg, hnc, _, hcs, htk⟩
  · exact ⟨none, 0, by rw [h0], by omega, fun hn => by omega⟩
  · refine ⟨_, cap, rfl, by omega, Sl.own ⟨cur, hg, by omega, fun i hi => ?_⟩ hb⟩
    have h1 : (cur.toList.take (xs.length * 1))[i]? = some (inAt xs i) := by rw [htk]; exact iV_get xs i hi
    rw [List.getElem?_take_of_lt (by omega)] at h1
    simpa using h1
end Go.Proofs.YteckhdkghfidiaaGreatDoor
/- What the text of a super is: its numbers, its words; laws on lists of words; append of a whole list of ints onto four; rows of words that grow. Conditions: what is read can be read. -/
namespace Go.Proofs.YteckhdkghfidiaaGreatDoor
set_option linter.unusedVariables false
set_option maxRecDepth 100000
open Go.RowKit

/-- The numbers of a super. -/
def supL (g b p t : Int) (xs : List Int) : List Int := [g, b, p, t] ++ xs
def supN (g b p t : Int) (xs : List Int) : List Nat := (supL g b p t xs).map Int.toNat
theorem supL_len (g b p t : Int) (xs : List Int) : (supL g b p t xs).length = xs.length + 4 := by unfold supL; simp
theorem supN_len (g b p t : Int) (xs : List Int) : (supN g b p t xs).length = xs.length + 4 := by unfold supN; rw [List.length_map, supL_len]
theorem superB_yes {g b p t : Int} {xs : List Int} {ms : List Mrk} (h : superB g b p t xs ms = true) :
    (1 ≤ g ∧ g ≤ 999999) ∧ (0 ≤ b ∧ b ≤ 999999) ∧ (b ≤ p ∧ p ≤ 999999) ∧ (b ≤ t ∧ t ≤ 999999) ∧ tbB xs = true ∧ msB ms = true := by
  unfold superB at h
  simp only [Bool.and_eq_true] at h
  exact ⟨inB_yes h.1.1.1.1.1, inB_yes h.1.1.1.1.2, inB_yes h.1.1.1.2, inB_yes h.1.1.2, h.1.2, h.2⟩
theorem tbB_in {xs : List Int} (h : tbB xs = true) {x : Int} (hx : x ∈ xs) : 10 ≤ x ∧ x ≤ 63 := by
  obtain ⟨_, hto⟩ := tbB_yes h
  obtain ⟨i, hi, rfl⟩ := List.getElem_of_mem hx
  have h1 := hto i hi
  unfold tbOk at h1
  rw [Bool.and_eq_true] at h1
  have h2 := inB_yes h1.1
  rwa [List.getD_eq_getElem?_getD, List.getElem?_eq_getElem hi, Option.getD_some] at h2
theorem supL_in {g b p t : Int} {xs : List Int} {ms : List Mrk} (h : superB g b p t xs ms = true) : ∀ x ∈ supL g b p t xs, 0 ≤ x ∧ x ≤ 999999 := by
  obtain ⟨h0, h1, h2, h3, h4, _⟩ := superB_yes h
  intro x hx
  unfold supL at hx
  simp only [List.mem_append, List.mem_cons, List.not_mem_nil, or_false] at hx
  rcases hx with (rfl | rfl | rfl | rfl) | hx
  · omega
  · omega
  · omega
  · omega
  · have := tbB_in h4 hx; omega
theorem supN_all {g b p t : Int} {xs : List Int} {ms : List Mrk} (h : superB g b p t xs ms = true) : All6 (supN g b p t xs) := fun k hk => by
  have hk' : k < (supL g b p t xs).length := by unfold supN at hk; rwa [List.length_map] at hk
  unfold supN
  rw [List.getD_eq_getElem?_getD, List.getElem?_map, List.getElem?_eq_getElem hk', Option.map_some, Option.getD_some]
  have := supL_in h _ (List.getElem_mem hk')
  omega
theorem supN_row {g b p t : Int} {xs : List Int} {ms : List Mrk} (h : superB g b p t xs ms = true) {w : World} {B n : Nat} {A : Option Addr} (hn : n = (supN g b p t xs).length) (hr : Row w B A n (inAt (supL g b p t xs))) : Row w B A (supN g b p t xs).length (intAt (supN g b p t xs)) := by
  subst hn
  intro hm
  obtain ⟨bb, off, e, hb, hc⟩ := hr hm
  refine ⟨bb, off, e, hb, fun i hi => ?_⟩
  rw [hc i hi]
  have hk' : i < (supL g b p t xs).length := by unfold supN at hi; rwa [List.length_map] at hi
  unfold inAt intAt supN
  rw [List.getD_eq_getElem?_getD, List.getElem?_eq_getElem hk', Option.getD_some, List.getD_eq_getElem?_getD, List.getElem?_map, List.getElem?_eq_getElem hk', Option.map_some, Option.getD_some]
  have := supL_in h _ (List.getElem_mem hk')
  rw [Int.toNat_of_nonneg this.1]
theorem msB_at {ms : List Mrk} (h : msB ms = true) {k : Nat} (hk : k < ms.length) : (ms.getD k mrZ).1.size ≤ 6 ∧ 0 ≤ (ms.getD k mrZ).2 ∧ (ms.getD k mrZ).2 ≤ 999999 := by
  have h1 := (msB_yes h).2 k hk
  unfold okMk mkB nmB at h1
  simp only [Bool.and_eq_true] at h1
  have h2 := inB_yes h1.1.1.1
  have h3 := inB_yes h1.1.2
  omega

/-- The word of a mark. -/
def mkW (m : Mrk) : ByteArray := m.1 ++ ⟨#[61]⟩ ++ ⟨(digs m.2.toNat).toArray⟩
def wds (ms : List Mrk) : List ByteArray := ms.map mkW
theorem wds_len (ms : List Mrk) : (wds ms).length = ms.length := by unfold wds; simp
def wdAt (ws : List ByteArray) (i : Nat) : Value := .string (ws.getD i ByteArray.empty)
/-- Words with signs between. -/
def jn (ws : List ByteArray) : ByteArray := ⟨(Lib.join (ws.map (·.data.toList)) [44]).toArray⟩
theorem jn_nil : jn [] = ⟨#[]⟩ := rfl
theorem jn_one (x : ByteArray) : jn [x] = x := by
  unfold jn
  rw [List.map_cons, List.map_nil, Lib.join_one]
theorem jn_snoc {ws : List ByteArray} (h : 0 < ws.length) (y : ByteArray) : jn (ws ++ [y]) = jn ws ++ ⟨#[44]⟩ ++ y := by
  rcases ws with _ | ⟨x, r⟩
  · simp at h
  · have e : (jn ((x :: r) ++ [y])).data.toList = (jn (x :: r) ++ ⟨#[44]⟩ ++ y).data.toList := by
      rw [ba_app, ba_app]
      unfold jn
      simp only [List.cons_append, List.map_cons, List.map_append, List.map_nil, Lib.join_cons]
      unfold Lib.joinTail
      simp
    have e2 := ba_eq e
    rw [e2]
theorem jn_take {ws : List ByteArray} {k : Nat} (hk : k < ws.length) : ws.take (k + 1) = ws.take k ++ [ws.getD k ByteArray.empty] := by
  rw [List.take_succ_eq_append_getElem hk, List.getD_eq_getElem?_getD, List.getElem?_eq_getElem hk, Option.getD_some]
theorem wds_at {ms : List Mrk} {k : Nat} (hk : k < ms.length) : (wds ms).getD k ByteArray.empty = mkW (ms.getD k mrZ) := by
  unfold wds
  rw [List.getD_eq_getElem?_getD, List.getElem?_map, List.getD_eq_getElem?_getD, List.getElem?_eq_getElem hk]; rfl
theorem wds_take (ms : List Mrk) (k : Nat) : (wds ms).take k = wds (ms.take k) := by unfold wds; rw [List.map_take]
theorem mkW_size {m : Mrk} (h : m.1.size ≤ 6) (h1 : m.2 ≤ 999999) : (mkW m).size ≤ 13 := by
  unfold mkW
  rw [ByteArray.size_append, ByteArray.size_append]
  have h2 := (digs_len (n := m.2.toNat) (by omega)).2
  have h3 : (⟨(digs m.2.toNat).toArray⟩ : ByteArray).size = (digs m.2.toNat).length := by simp [ByteArray.size]
  have h4 : (⟨#[61]⟩ : ByteArray).size = 1 := rfl
  omega
theorem wds_size {ms : List Mrk} (h : msB ms = true) (k : Nat) : ((wds ms).getD k ByteArray.empty).size ≤ 13 := by
  by_cases hk : k < ms.length
  · rw [wds_at hk]
    have := msB_at h hk
    exact mkW_size this.1 this.2.2
  · rw [List.getD_eq_getElem?_getD, List.getElem?_eq_none (by rw [wds_len]; omega)]
    exact Nat.zero_le _
theorem jn_size : ∀ (k : Nat) (ws : List ByteArray), (∀ k, (ws.getD k ByteArray.empty).size ≤ 13) → k ≤ ws.length → (jn (ws.take k)).size ≤ 14 * k
  | 0, ws, _, _ => by simp [jn_nil, ByteArray.size]
  | k + 1, ws, h, hk => by
    have ih := jn_size k ws h (by omega)
    rw [jn_take (by omega)]
    have hx := h k
    rcases Nat.eq_zero_or_pos k with hz | hp
    · subst hz
      rw [List.take_zero, List.nil_append, jn_one]; omega
    · rw [jn_snoc (by rw [List.length_take]; omega), ByteArray.size_append, ByteArray.size_append]
      have h4 : (⟨#[44]⟩ : ByteArray).size = 1 := rfl
      omega
theorem jn_all {ws : List ByteArray} (h : ∀ k, (ws.getD k ByteArray.empty).size ≤ 13) : (jn ws).size ≤ 14 * ws.length := by
  have := jn_size ws.length ws h (Nat.le_refl _)
  rwa [List.take_length] at this

/-- The text of a super. -/
def supS (g b p t : Int) (xs : List Int) (ms : List Mrk) : ByteArray := if superB g b p t xs ms then sealS (numsS (supN g b p t xs) ++ ⟨#[124]⟩ ++ jn (wds ms)) else ⟨#[]⟩

theorem RowI.new4 (w : World) {B : Nat} (a b c d : Int) (hB : B ≤ w.heap.size) : RowI (w.alloc (.cells #[.int .i64 a, .int .i64 b, .int .i64 c, .int .i64 d] 3)) B (.slice (some ⟨w.heap.size, 0, none⟩) 4 4) [a, b, c, d] :=
  ⟨rfl, .inr ⟨_, 4, #[.int .i64 a, .int .i64 b, .int .i64 c, .int .i64 d], rfl, hB, heap_alloc_new w _, Nat.le_refl _, by unfold maxLen; omega, rfl, rfl⟩⟩
theorem iV_one' (xs : List Int) : ∀ u ∈ iV xs, u.oneCell' = true := fun u hu => by
  unfold iV at hu
  obtain ⟨x, _, rfl⟩ := List.mem_map.1 hu
  rfl
theorem iV_len' (xs : List Int) : (iV xs).length = xs.length := by unfold iV; simp
theorem grewT_refl' (t : TypeId) (B : Nat) (w : World) : GrewT t B w w := ⟨fun _ h _ => h, fun _ _ _ h _ => h, fun _ _ _ _ h => h, Nat.le_refl _⟩
theorem grewT_of' {w w' : World} {B : Nat} {v : Value} {xs : List Int} (hown : RowI w B v xs) (hg' : w.grownBy w' v.ownBlock) : GrewT 3 B w w' := by
  have hrow : ∀ k, Value.ownBlock v = some k → B ≤ k := fun k hk => (World.ownsRow.lt hown k hk).1
  refine ⟨fun b hb hbB => Below.grown hb hg' hb.size (fun k hk => Nat.le_trans hbB (hrow k hk)), fun lo hi b hb hbB => ?_, fun g t xs' ht hbg => hbg.grown hg' (hown.ne hbg ht), hg'.size⟩
  refine ⟨hg'.os.trans hb.os, hg'.tape.trans hb.tape, hg'.output.trans hb.output, Nat.le_trans hb.size hg'.size, fun k hk hr => (hg'.block k (Nat.lt_of_lt_of_le hk hb.size) fun e => ?_).trans (hb.block k hk hr)⟩
  have := hrow k e.symm
  omega
set_option maxHeartbeats 1000000 in
/-- append of a whole list of ints onto four. -/
theorem wpList_app4I {w : World} {ops : Array Oper} {rest : List Oper} {o : Oper} {a : Act} {Q : Exit → Act → World → Prop}
    (hgd : o.guard = none) (s x : Operand) (ho : o.op = .call { callee := .builtin .append, args := #[s, x], argTypes := #[23, 23] })
    (B g0 : Nat) (A : Option Addr) (c : Nat) (ys xs : List Int) (hys : ys.length = 4) (hs : a.eval s = .slice (some ⟨g0, 0, none⟩) 4 4) (hx : a.eval x = .slice A xs.length c) (hown : RowI w B (.slice (some ⟨g0, 0, none⟩) 4 4) ys) {B' : Nat} (hrow : Ins w B' A xs)
    (hm : xs.length ≤ 1048576) (hB : B ≤ w.heap.size)
    (hK : ∀ A' k' w', RowI w' B (.slice A' (xs.length + 4) k') (ys ++ xs) → GrewT 3 B w w' → wpList Tryz.prog ops Q rest (a.put o.dst (.slice A' (xs.length + 4) k')) w') :
    wpList Tryz.prog ops Q (o :: rest) a w := by
  refine wpList_plain hgd fun K hK' => ?_
  obtain ⟨i0, hi0, hz0, hz1, hz2⟩ := info_parts info_int
  rcases Nat.eq_zero_or_pos xs.length with h0 | hp
  · have hgs : xs = [] := List.eq_nil_of_length_eq_zero h0
    subst hgs
    have hrun : (Builtin.append_ #[23, 23] o.type #[.slice (some ⟨g0, 0, none⟩) 4 4, .slice A 0 c]).run Tryz.prog w = .ok (.slice (some ⟨g0, 0, none⟩) 4 4) w := by
      rcases A with _ | a'
      · simp [Builtin.append_, run_underlying Tryz.underlying23, sizeOf, typeInfo, hi0, Builtin.lenOf, Builtin.firstCells, storeCells]
      · simp [Builtin.append_, run_underlying Tryz.underlying23, sizeOf, typeInfo, hi0, Builtin.lenOf, Builtin.firstCells, storeCells, loadCells, loadCellsFrom]
    have hx' : a.eval x = .slice A 0 c := hx
    unfold Oper.wp execOp
    simp only [ho, resolve, invoke, builtin, Sem.run_bind, Sem.run_pure, Result.andThen_ok, List.map_toArray, List.map_cons, List.map_nil, hs, hx', hrun]
    exact hK' _ _ (hK _ _ w (by rw [List.append_nil]; exact hown) (grewT_refl' _ _ _))
  · obtain ⟨b, off, rfl, hb, hc⟩ := hrow (by omega)
    have hown' : w.ownsRow B 3 1 (.slice (some ⟨g0, 0, none⟩) 4 4) 4 (iV ys) := by have := hown; unfold RowI at this; rwa [hys] at this
    refine wp_append_own w s x 23 ho B 3 i0 _ 1 8 Tryz.underlying23 hi0 hz0 hz1 hz2 rfl (by omega) _ 4 _ hs hown' ⟨b, off, none⟩ xs.length c (iV xs) hx (by rw [iV_len', Nat.mul_one]) (fun j u hj => ?_) (iV_one' xs) (by unfold maxLen; omega) (by omega) hB ?_
    · have hj' : j < xs.length := by
        have := (List.getElem?_eq_some_iff.1 hj).1
        rwa [iV_len'] at this
      rw [iV_get xs j hj'] at hj
      rw [addr_add', hc j hj']
      exact hj
    · intro v' w' hw' hg' _
      have hr : RowI w' B v' (ys ++ xs) := by
        unfold RowI
        have e : (ys ++ xs).length = 4 + xs.length := by rw [List.length_append, hys]
        rw [e]
        unfold iV at hw' ⊢
        rw [List.map_append]
        exact hw'
      obtain ⟨A', k', rfl, _⟩ := hr.sl
      have e : (ys ++ xs).length = xs.length + 4 := by rw [List.length_append, hys]; omega
      rw [e] at hr ⊢
      exact hK' _ _ (hK A' k' w' hr (grewT_of' hown hg'))

/-- Words as values; a row of words that grows. -/
def wV (ws : List ByteArray) : List Value := ws.map .string
theorem wV_len (ws : List ByteArray) : (wV ws).length = ws.length := by unfold wV; simp
theorem infoS : (Tryz.prog.info? 9).map (fun i => (i.zero, i.size, i.bytes)) = some (some (.string ByteArray.empty), 1, 16) := by kernel_rfl
def RowW (w : World) (B : Nat) (v : Value) (ws : List ByteArray) : Prop := w.ownsRow B 9 1 v ws.length (wV ws)
theorem RowW.new (w : World) {B : Nat} (hB : B ≤ w.heap.size) : RowW (w.alloc (.cells #[] 9)) B (.slice (some ⟨w.heap.size, 0, none⟩) 0 0) [] :=
  ⟨rfl, .inr ⟨_, 0, #[], rfl, hB, heap_alloc_new w _, by simp, by unfold maxLen; omega, rfl, rfl⟩⟩
theorem RowW.nx {w w' : World} {B : Nat} {v : Value} {ws : List ByteArray} (h : RowW w B v ws) (hb : Nx w w') : RowW w' B v ws := by
  refine World.ownsRow.kept (row := none) h ⟨hb.os, hb.tape, hb.output, hb.size, fun i hi _ => hb.block i hi⟩ ?_
  cases hv : v.ownBlock with
  | none => exact .inl rfl
  | some g => exact .inr (by simp)
theorem wV_get (ws : List ByteArray) (i : Nat) (h : i < ws.length) : (wV ws)[i]? = some (wdAt ws i) := by
  unfold wV wdAt
  rw [List.getElem?_map, List.getElem?_eq_getElem h, List.getD_eq_getElem?_getD, List.getElem?_eq_getElem h]; rfl
theorem RowW.sl {w : World} {B : Nat} {v : Value} {ws : List ByteArray} (h : RowW w B v ws) : ∃ A c, v = .slice A ws.length c ∧ Sl w B A 9 ws.length (wdAt ws) := by
  rcases h.2 with ⟨rfl, h0⟩ | ⟨g, cap, cur, rfl, hb, hg, hnc, _, hcs, htk⟩
  · exact ⟨none, 0, by rw [h0], fun hn => by omega⟩
  · refine ⟨_, cap, rfl, Sl.own ⟨cur, hg, by omega, fun i hi => ?_⟩ hb⟩
    have h1 : (cur.toList.take (ws.length * 1))[i]? = some (wdAt ws i) := by rw [htk]; exact wV_get ws i hi
    rw [List.getElem?_take_of_lt (by omega)] at h1
    simpa using h1

theorem Nx.of_two' {a w u : World} (h : Nx a w) (k : Nx a u) : ∀ p : Addr, p.block < a.heap.size → w.cell? p = u.cell? p := fun p hp => (h.cell hp).trans (k.cell hp).symm
end Go.Proofs.YteckhdkghfidiaaGreatDoor
/- The library contracts of strings.Cut and strings.Split at this program (the laying alone, printed by the command that lays them). Conditions: none. -/
namespace Go.Proofs
open Go.Shelf
def Tryz.lays145_ren : Go.Shelf.Ren := ⟨fun | 145 => 88 | 220 => 125 | 219 => 144 | 217 => 154 | 225 => 155 | 224 => 156 | 267 => 157 | 266 => 166 | 314 => 167 | n => n, fun | 9 => 9 | 4 => 4 | 59 => 115 | 3 => 3 | 5 => 5 | 46 => 200 | 146 => 210 | 51 => 209 | n => n, fun | 1 => 3 | n => n⟩
theorem Tryz.lays145 : Go.Proofs.Lays.n145 Tryz.prog Tryz.lays145_ren := {
  mixed := by kernel_rfl
  f145 := Tryz.func88.trans (congrArg some (by kernel_rfl))
  f217 := Tryz.func154.trans (congrArg some (by kernel_rfl))
  f219 := Tryz.func144.trans (congrArg some (by kernel_rfl))
  f220 := Tryz.func125.trans (congrArg some (by kernel_rfl))
  f224 := Tryz.func156.trans (congrArg some (by kernel_rfl))
  f225 := Tryz.func155.trans (congrArg some (by kernel_rfl))
  f266 := Tryz.func166.trans (congrArg some (by kernel_rfl))
  f267 := Tryz.func157.trans (congrArg some (by kernel_rfl))
  f314 := Tryz.func167.trans (congrArg some (by kernel_rfl))
  t3 := Tryz.underlying3
  a3 := Tryz.isAgg3
  z3 := Tryz.sizeOf3
  v3 := Tryz.zeroValue3
  t4 := Tryz.underlying4
  a4 := Tryz.isAgg4
  z4 := Tryz.sizeOf4
  v4 := Tryz.zeroValue4
  t5 := Tryz.underlying5
  a5 := Tryz.isAgg5
  z5 := Tryz.sizeOf5
  v5 := Tryz.zeroValue5
  t9 := Tryz.underlying9
  a9 := Tryz.isAgg9
  z9 := Tryz.sizeOf9
  v9 := Tryz.zeroValue9
  t46 := Tryz.underlying200
  a46 := Tryz.isAgg200
  z46 := Tryz.sizeOf200
  v46 := Tryz.zeroValue200
  t51 := Tryz.underlying209
  a51 := Tryz.isAgg209
  z51 := Tryz.sizeOf209
  v51 := Tryz.zeroValue209
  t59 := Tryz.underlying115
  a59 := Tryz.isAgg115
  z59 := Tryz.sizeOf115
  v59 := Tryz.zeroValue115
  t146 := Tryz.underlying210
  a146 := Tryz.isAgg210
  z146 := Tryz.sizeOf210
  v146 := Tryz.zeroValue210
  g1 := by kernel_rfl }
def Tryz.lays146_ren : Go.Shelf.Ren := ⟨fun | 146 => 127 | 221 => 146 | 268 => 158 | 138 => 159 | 143 => 160 | 195 => 168 | 197 => 169 | 218 => 170 | 219 => 144 | 260 => 176 | 217 => 154 | 225 => 155 | 224 => 156 | 267 => 157 | 266 => 166 | 314 => 167 | n => n, fun | 9 => 9 | 31 => 32 | 3 => 3 | 4 => 4 | 0 => 0 | 105 => 212 | 21 => 21 | 5 => 5 | 46 => 200 | 119 => 219 | 139 => 222 | 138 => 221 | 146 => 210 | 51 => 209 | n => n, fun | 1 => 3 | 3 => 5 | 4 => 6 | n => n⟩
theorem Tryz.lays146 : Go.Proofs.Lays.n146 Tryz.prog Tryz.lays146_ren := {
  mixed := by kernel_rfl
  f138 := Tryz.func159.trans (congrArg some (by kernel_rfl))
  f143 := Tryz.func160.trans (congrArg some (by kernel_rfl))
  f146 := Tryz.func127.trans (congrArg some (by kernel_rfl))
  f195 := Tryz.func168.trans (congrArg some (by kernel_rfl))
  f197 := Tryz.func169.trans (congrArg some (by kernel_rfl))
  f217 := Tryz.func154.trans (congrArg some (by kernel_rfl))
  f218 := Tryz.func170.trans (congrArg some (by kernel_rfl))
  f219 := Tryz.func144.trans (congrArg some (by kernel_rfl))
  f221 := Tryz.func146.trans (congrArg some (by kernel_rfl))
  f224 := Tryz.func156.trans (congrArg some (by kernel_rfl))
  f225 := Tryz.func155.trans (congrArg some (by kernel_rfl))
  f260 := Tryz.func176.trans (congrArg some (by kernel_rfl))
  f266 := Tryz.func166.trans (congrArg some (by kernel_rfl))
  f267 := Tryz.func157.trans (congrArg some (by kernel_rfl))
  f268 := Tryz.func158.trans (congrArg some (by kernel_rfl))
  f314 := Tryz.func167.trans (congrArg some (by kernel_rfl))
  t0 := Tryz.underlying0
  a0 := Tryz.isAgg0
  z0 := Tryz.sizeOf0
  v0 := Tryz.zeroValue0
  t3 := Tryz.underlying3
  a3 := Tryz.isAgg3
  z3 := Tryz.sizeOf3
  v3 := Tryz.zeroValue3
  t4 := Tryz.underlying4
  a4 := Tryz.isAgg4
  z4 := Tryz.sizeOf4
  v4 := Tryz.zeroValue4
  t5 := Tryz.underlying5
  a5 := Tryz.isAgg5
  z5 := Tryz.sizeOf5
  v5 := Tryz.zeroValue5
  t9 := Tryz.underlying9
  a9 := Tryz.isAgg9
  z9 := Tryz.sizeOf9
  v9 := Tryz.zeroValue9
  t21 := Tryz.underlying21
  a21 := Tryz.isAgg21
  z21 := Tryz.sizeOf21
  v21 := Tryz.zeroValue21
  t31 := Tryz.underlying32
  a31 := Tryz.isAgg32
  z31 := Tryz.sizeOf32
  v31 := Tryz.zeroValue32
  t46 := Tryz.underlying200
  a46 := Tryz.isAgg200
  z46 := Tryz.sizeOf200
  v46 := Tryz.zeroValue200
  t51 := Tryz.underlying209
  a51 := Tryz.isAgg209
  z51 := Tryz.sizeOf209
  v51 := Tryz.zeroValue209
  t105 := Tryz.underlying212
  a105 := Tryz.isAgg212
  z105 := Tryz.sizeOf212
  v105 := Tryz.zeroValue212
  t119 := Tryz.underlying219
  a119 := Tryz.isAgg219
  z119 := Tryz.sizeOf219
  t138 := Tryz.underlying221
  a138 := Tryz.isAgg221
  z138 := Tryz.sizeOf221
  v138 := Tryz.zeroValue221
  t139 := Tryz.underlying222
  a139 := Tryz.isAgg222
  z139 := Tryz.sizeOf222
  v139 := Tryz.zeroValue222
  t146 := Tryz.underlying210
  a146 := Tryz.isAgg210
  z146 := Tryz.sizeOf210
  v146 := Tryz.zeroValue210
  g1 := by kernel_rfl
  g3 := by kernel_rfl
  g4 := by kernel_rfl }
end Go.Proofs
/- Contracts of the model's l00Cut and of the library's strings.Cut and strings.Split at a byte. Conditions: texts of at most 65536 bytes; for the library: its variable MaxLen holds a number. -/
namespace Go.Proofs.YteckhdkghfidiaaGreatDoor
set_option linter.unusedVariables false
set_option maxRecDepth 100000
open Go.RowKit

/-- The library's MaxLen holds a number. -/
def Mx (w : World) : Prop := ∃ m : Int, w.cell? ⟨3, 0, none⟩ = some (.int .i64 m)
theorem Mx.nx {w w' : World} (h : Mx w) (hb : Nx w w') : Mx w' := by
  obtain ⟨m, h⟩ := h
  exact ⟨m, (hb.cell (World.block_lt_of_cell? w _ h)).trans h⟩
/-- strings.Cut at a byte. -/
theorem cut_c (s : ByteArray) (c : UInt8) (w : World) (hs : s.size ≤ 65536) (hm : Mx w) :
    Calls Tryz.prog 88 #[.string s, .string ⟨#[c]⟩] w fun e w' => e = .returned (.tuple #[.string (baL (Lib.cut s.data.toList [c]).1), .string (baL (Lib.cut s.data.toList [c]).2.1), .bool (Lib.cut s.data.toList [c]).2.2]) ∧ Nx w w' := by
  obtain ⟨m, hm⟩ := hm
  refine (Any.strings_Cut Tryz.lays145 s ⟨#[c]⟩ m w (by omega) hm).mono ?_
  rintro e w' ⟨he, n, rfl⟩
  exact ⟨he, (Nx.refl w).drewN n⟩
/-- A list of words in new memory. -/
def RetWs (w : World) (ws : List ByteArray) (e : Ending) (w' : World) : Prop := ∃ (A : Option Addr) (c : Nat), e = .returned (.slice A ws.length c) ∧ Sl w' w.heap.size A 9 ws.length (wdAt ws) ∧ Nx w w'
/-- strings.Split at a byte. -/
theorem split_c (s : ByteArray) (c : UInt8) (w : World) (hs : s.size ≤ 65536) (hm : Mx w) :
    Calls Tryz.prog 127 #[.string s, .string ⟨#[c]⟩] w (RetWs w (cutB c s)) := by
  obtain ⟨m, hm⟩ := hm
  refine (Any.strings_Split Tryz.lays146 infoS s ⟨#[c]⟩ m w (by omega) hm (by simp [ByteArray.size])).mono ?_
  rintro e w' ⟨he, rfl⟩
  rw [cutB_count] at he
  refine ⟨_, _, he, ?_, (Nx.refl w).alloc _⟩
  rw [cutB_split]
  refine Sl.own ⟨_, heap_alloc_new w _, by simp, fun i hi => ?_⟩ (Nat.le_refl _)
  rw [List.getElem?_toArray]
  exact wV_get _ i hi

theorem drop_hit {c : UInt8} {l : List UInt8} {f i : Nat} (hfi : f ≤ i) (hi : i < l.length) (hc : l[i] = c) (hn : c ∉ (l.drop f).take (i - f)) : cutL c (l.drop f) = (l.drop f).take (i - f) :: cutL c (l.drop (i + 1)) := by
  have e : l.drop f = (l.drop f).take (i - f) ++ c :: l.drop (i + 1) := by
    conv => lhs; rw [← List.take_append_drop (i - f) (l.drop f)]
    rw [List.drop_drop, show f + (i - f) = i by omega, List.drop_eq_getElem_cons hi, hc]
  conv => lhs; rw [e]
  exact cutL_hit c _ _ hn
theorem take_grow {l : List UInt8} {f i : Nat} (hfi : f ≤ i) (hi : i < l.length) : (l.drop f).take (i + 1 - f) = (l.drop f).take (i - f) ++ [l[i]] := by
  rw [show i + 1 - f = (i - f) + 1 by omega, List.take_succ_eq_append_getElem (by rw [List.length_drop]; omega), List.getElem_drop]
  simp only [show f + (i - f) = i by omega]
theorem ext_baL (s : ByteArray) (f i : Nat) : s.extract f i = baL ((s.data.toList.drop f).take (i - f)) := by
  rw [ba_eq (Lib.extract_data s f i)]; rfl
theorem baL_data (l : List UInt8) : (baL l).data.toList = l := rfl
theorem wV_app (ws : List ByteArray) (x : ByteArray) : wV (ws ++ [x]) = wV ws ++ [.string x] := by unfold wV; simp
theorem Own.newS (w : World) (x : ByteArray) : Hid (∀ j u, [Value.string x][j]? = some u → (w.alloc (.cells #[.string x] 9)).cell? ((Addr.mk w.heap.size 0 none).add j) = some u) := Lib.hid (news1 w 9 (.string x))

set_option maxHeartbeats 4000000 in
theorem l00Cut_c (s : ByteArray) (c : UInt8) (w : World) (hs : s.size ≤ 65536) : Calls Tryz.prog 138 #[.string s, .int .u8 (c.toNat : Int)] w (RetWs w (cutB c s)) := by
  obtain ⟨i0, hi0, hz0, hz1, hz2⟩ := info_parts infoS
  have hw0 := RowW.new w (B := w.heap.size) (Nat.le_refl _)
  have hn0 := (Nx.refl w).alloc (.cells #[] 9)
  go_enter Tryz.func138, Tryz.ntmps138
  go_wp2
  go_loopw [5, 6, 7] (fun o f i wr => ∃ (k q : Nat) (v : Value) (ws : List ByteArray), q ≤ k ∧ k ≤ s.size ∧ i = .int .i64 k ∧ f = .int .i64 q ∧ v = o ∧ ws.length ≤ k ∧ RowW wr w.heap.size v ws ∧ Hid (cutB c s = ws ++ (cutL c (s.data.toList.drop q)).map baL ∧ c ∉ (s.data.toList.drop q).take (k - q)) ∧ Nx w wr) (fun _ _ i _ => s.size - (intOf i).toNat)
  case atStart => exact ⟨0, 0, _, [], Nat.le_refl _, Nat.zero_le _, rfl, rfl, rfl, Nat.le_refl _, hw0, Lib.hid ⟨rfl, by simp⟩, hn0⟩
  case round =>
    obtain ⟨k, q, v, ws, hqk, hk, rfl, rfl, rfl, hwl, hw, HR, hnx⟩ := hrel
    clear hw0 hn0
    by_cases hlt : k < s.size
    · have hlt' : k < s.data.toList.length := by rw [← ba_size]; exact hlt
      have Hlt := Lib.hid hlt'
      clear hlt'
      by_cases hc : s[k] = c
      · have hcd : ((s[k].toNat : Int) == (c.toNat : Int)) = true := by rw [hc]; simp
        have HH := Lib.hid (drop_hit (f := q) hqk Hlt.out (by rw [getL s k hlt]; exact hc) HR.out.2)
        have hb1 : (0 : Int) ≤ (q : Int) := by omega
        have hb2 : (q : Int) ≤ (k : Int) := by omega
        have hb3 : (k : Int) ≤ (s.size : Int) := by omega
        obtain ⟨x, hx⟩ : ∃ x, s.extract q k = x := ⟨_, rfl⟩
        have HX := Lib.hid ((ext_baL s q k).symm.trans hx)
        clear hc
        have hw1 := hw.nx ((Nx.refl wr).alloc (.cells #[.string x] 9))
        have hx1 := hnx.alloc (.cells #[.string x] 9)
        have HNW := Own.newS wr x
        have HO : Hid (∀ u ∈ [Value.string x], u.oneCell' = true) := Lib.hid (fun u hu => by simp only [List.mem_cons, List.not_mem_nil, or_false] at hu; subst hu; rfl)
        unfold RowW at hw1
        go_wp2_with (at_builtin; refine wpList_append_own _ rfl _ _ 32 rfl w.heap.size 9 i0 _ 1 16 Tryz.underlying32 hi0 hz0 hz1 hz2 rfl (by omega) v ws.length _ rfl hw1 ⟨wr.heap.size, 0, none⟩ 1 1 [.string x] rfl rfl HNW.out HO.out ?c3 ?c4 ?c5 ?_)
        case c3 => unfold maxLen; omega
        case c4 => omega
        case c5 => have := hx1.size; simp only [World.size_alloc] at this ⊢; omega
        intro v2 w2 hw2 hg2 _
        have hx2 : Nx w w2 := Below.grown hx1 hg2 hx1.size (fun k hk => (hw1.lt k hk).1)
        go_wp2
        go_roundw
        case rel =>
          refine ⟨k + 1, k + 1, v2, ws ++ [x], Nat.le_refl _, by omega, by go_num, by go_num, rfl, by simp; omega, ?_, Lib.hid ⟨?_, by simp⟩, hx2⟩
          · unfold RowW; rw [wV_app, List.length_append]; exact hw2
          · rw [HR.out.1, HH.out, List.map_cons, HX.out]; simp
        case measure => simp [intOf]; omega
      · have hcd : ((s[k].toNat : Int) == (c.toNat : Int)) = false := by
          rw [beq_eq_false_iff_ne]; intro h; exact hc (UInt8.toNat_inj.1 (by omega))
        have HC := Lib.hid hc
        clear hc
        go_wp2
        go_roundw
        case rel =>
          refine ⟨k + 1, q, v, ws, by omega, by omega, by go_num, rfl, rfl, by omega, hw, Lib.hid ⟨HR.out.1, ?_⟩, hnx⟩
          rw [take_grow hqk Hlt.out, List.mem_append, not_or]
          refine ⟨HR.out.2, fun h => HC.out ?_⟩
          rw [List.mem_singleton] at h
          exact (getL s k hlt).symm.trans h.symm
        case measure => simp [intOf]; omega
    · obtain rfl : k = s.size := by omega
      have hb2 : (q : Int) ≤ (s.size : Int) := by omega
      have hb1 : (0 : Int) ≤ (q : Int) := by omega
      obtain ⟨x, hx⟩ : ∃ x, s.extract q s.size = x := ⟨_, rfl⟩
      have HX := Lib.hid ((ext_baL s q s.size).symm.trans hx)
      have hw1 := hw.nx ((Nx.refl wr).alloc (.cells #[.string x] 9))
      have hx1 := hnx.alloc (.cells #[.string x] 9)
      have HNW := Own.newS wr x
      have HO : Hid (∀ u ∈ [Value.string x], u.oneCell' = true) := Lib.hid (fun u hu => by simp only [List.mem_cons, List.not_mem_nil, or_false] at hu; subst hu; rfl)
      unfold RowW at hw1
      go_wp2_with (at_builtin; refine wpList_append_own _ rfl _ _ 32 rfl w.heap.size 9 i0 _ 1 16 Tryz.underlying32 hi0 hz0 hz1 hz2 rfl (by omega) v ws.length _ rfl hw1 ⟨wr.heap.size, 0, none⟩ 1 1 [.string x] rfl rfl HNW.out HO.out ?c3 ?c4 ?c5 ?_)
      case c3 => unfold maxLen; omega
      case c4 => omega
      case c5 => have := hx1.size; simp only [World.size_alloc] at this ⊢; omega
      intro v2 w2 hw2 hg2 _
      have hx2 : Nx w w2 := Below.grown hx1 hg2 hx1.size (fun k hk => (hw1.lt k hk).1)
      have HE : Hid (cutB c s = ws ++ [x]) := Lib.hid (by
        have e : (s.data.toList.drop q).take (s.size - q) = s.data.toList.drop q := List.take_of_length_le (by rw [List.length_drop, ← ba_size]; omega)
        have h2 := HR.out.2
        rw [e] at h2
        have h3 := HX.out
        rw [e] at h3
        rw [HR.out.1, cutL_miss c _ h2, List.map_cons, List.map_nil, h3])
      have hR2 : RowW w2 w.heap.size v2 (cutB c s) := by
        rw [HE.out]; unfold RowW; rw [wV_app, List.length_append]; exact hw2
      obtain ⟨A, cp, rfl, hS⟩ := hR2.sl
      go_wp2
      go_ret
      exact ⟨A, cp, rfl, hS, hx2⟩
end Go.Proofs.YteckhdkghfidiaaGreatDoor
