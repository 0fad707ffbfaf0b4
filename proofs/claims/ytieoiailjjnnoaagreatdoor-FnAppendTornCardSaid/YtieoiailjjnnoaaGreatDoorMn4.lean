/-
  Texts of the proof, in their order.
  Conditions: those of each.
-/
import Derived.Test.YtieoiailjjnnoaaGreatDoorMn3
import Derived.Lib.Join
import Derived.Shelf.Strings.Cut
import Derived.Shelf.Strings.Split
import Derived.Test.YtieoiailjjnnoaaGreatDoorProg
import Derived.Deep.AppendLies
namespace Go.Proofs.YtieoiailjjnnoaaGreatDoor
set_option linter.unusedVariables false
open _root_.Go.Proofs.Tryz
set_option maxRecDepth 100000
set_option maxHeartbeats 16000000
section
open Go.RowKit
def supL (g b p t : Int) (xs : List Int) : List Int := [g, b, p, t] ++ xs
def supN (g b p t : Int) (xs : List Int) : List Nat := (supL g b p t xs).map Int.toNat
theorem supL_len (g b p t : Int) (xs : List Int) : (supL g b p t xs).length = xs.length + 4 := by unfold supL; simp
theorem supN_len (g b p t : Int) (xs : List Int) : (supN g b p t xs).length = xs.length + 4 := by unfold supN; rw [List.length_map, supL_len]
theorem superB_yes {g b p t : Int} {xs : List Int} {ms : List Mrk} (h : superB g b p t xs ms = true) :
 (1 <= g /\ g <= 999999) /\ (0 <= b /\ b <= 999999) /\ (b <= p /\ p <= 999999) /\ (b <= t /\ t <= 999999) /\ tbB xs = true /\ msB ms = true := by
 unfold superB at h
 simp only [Bool.and_eq_true] at h
 exact ⟨inB_yes h.1.1.1.1.1, inB_yes h.1.1.1.1.2, inB_yes h.1.1.1.2, inB_yes h.1.1.2, h.1.2, h.2⟩
theorem tbB_in {xs : List Int} (h : tbB xs = true) {x : Int} (hx : x ∈ xs) : 10 <= x /\ x <= 63 := by
 obtain ⟨_, hto⟩ := tbB_yes h
 obtain ⟨i, hi, rfl⟩ := List.getElem_of_mem hx
 have h1 := hto i hi
 unfold tbOk at h1
 rw [Bool.and_eq_true] at h1
 have h2 := inB_yes h1.1
 rwa [gdE, List.getElem?_eq_getElem hi, Option.getD_some] at h2
theorem supL_in {g b p t : Int} {xs : List Int} {ms : List Mrk} (h : superB g b p t xs ms = true) : ∀ x ∈ supL g b p t xs, 0 <= x /\ x <= 999999 := by
 obtain ⟨h0, h1, h2, h3, h4, _⟩ := superB_yes h
 intro x hx
 unfold supL at hx
 simp only [List.mem_append, List.mem_cons, List.not_mem_nil, or_false] at hx
 rcases hx with (rfl | rfl | rfl | rfl) | hx
 . omega
 . omega
 . omega
 . omega
 . have := tbB_in h4 hx; omega
theorem supN_all {g b p t : Int} {xs : List Int} {ms : List Mrk} (h : superB g b p t xs ms = true) : All6 (supN g b p t xs) := fun k hk => by
 have hk' : k < (supL g b p t xs).length := by unfold supN at hk; rwa [List.length_map] at hk
 unfold supN
 rw [gdE, List.getElem?_map, List.getElem?_eq_getElem hk', Option.map_some, Option.getD_some]
 have := supL_in h _ (List.getElem_mem hk')
 omega
theorem supN_row {g b p t : Int} {xs : List Int} {ms : List Mrk} (h : superB g b p t xs ms = true) {w : World} {B n : Nat} {A : Option Addr} (hn : n = (supN g b p t xs).length) (hr : Row w B A n (inAt (supL g b p t xs))) : Row w B A (supN g b p t xs).length (intAt (supN g b p t xs)) := by
 subst hn
 intro hm
 obtain ⟨bb, off, e, hb, hc⟩ := hr hm
 refine ⟨bb, off, e, hb, fun i hi => ?_⟩
 rw [hc i hi]
 have hk' : i < (supL g b p t xs).length := by unfold supN at hi; rwa [List.length_map] at hi
 unfold inAt intAt supN
 rw [gdE, List.getElem?_eq_getElem hk', Option.getD_some, gdE, List.getElem?_map, List.getElem?_eq_getElem hk', Option.map_some, Option.getD_some]
 have := supL_in h _ (List.getElem_mem hk')
 rw [Int.toNat_of_nonneg this.1]
theorem msB_at {ms : List Mrk} (h : msB ms = true) {k : Nat} (hk : k < ms.length) : (ms.getD k mrZ).1.size <= 6 /\ 0 <= (ms.getD k mrZ).2 /\ (ms.getD k mrZ).2 <= 999999 := by
 have h1 := (msB_yes h).2 k hk
 unfold okMk mkB nmB at h1
 simp only [Bool.and_eq_true] at h1
 have h2 := inB_yes h1.1.1.1
 have h3 := inB_yes h1.1.2
 omega
def mkW (m : Mrk) : BA := m.1 ++ ⟨#[61]⟩ ++ ⟨(digs m.2.toNat).toArray⟩
def wds (ms : List Mrk) : List BA := ms.map mkW
theorem wds_len (ms : List Mrk) : (wds ms).length = ms.length := by unfold wds; simp
def wdAt (ws : List BA) (i : Nat) : Value := .string (ws.getD i ByteArray.empty)
def jn (ws : List BA) : BA := ⟨(Lib.join (ws.map (·.data.toList)) [44]).toArray⟩
theorem jn_nil : jn [] = ⟨#[]⟩ := rfl
theorem jn_one (x : BA) : jn [x] = x := by
 unfold jn
 rw [List.map_cons, List.map_nil, Lib.join_one]
theorem jn_snoc {ws : List BA} (h : 0 < ws.length) (y : BA) : jn (ws ++ [y]) = jn ws ++ ⟨#[44]⟩ ++ y := by
 rcases ws with _ | ⟨x, r⟩
 . simp at h
 . have e : (jn ((x :: r) ++ [y])).data.toList = (jn (x :: r) ++ ⟨#[44]⟩ ++ y).data.toList := by
    rw [ba_app, ba_app]
    unfold jn
    simp only [List.cons_append, List.map_cons, List.map_append, List.map_nil, Lib.join_cons]
    unfold Lib.joinTail
    simp
   have e2 := ba_eq e
   rw [e2]
theorem jn_take {ws : List BA} {k : Nat} (hk : k < ws.length) : ws.take (k + 1) = ws.take k ++ [ws.getD k ByteArray.empty] := by
 rw [List.take_succ_eq_append_getElem hk, gdE, List.getElem?_eq_getElem hk, Option.getD_some]
theorem wds_at {ms : List Mrk} {k : Nat} (hk : k < ms.length) : (wds ms).getD k ByteArray.empty = mkW (ms.getD k mrZ) := by
 unfold wds
 rw [gdE, List.getElem?_map, gdE, List.getElem?_eq_getElem hk]; rfl
theorem wds_take (ms : List Mrk) (k : Nat) : (wds ms).take k = wds (ms.take k) := by unfold wds; rw [List.map_take]
theorem mkW_size {m : Mrk} (h : m.1.size <= 6) (h1 : m.2 <= 999999) : (mkW m).size <= 13 := by
 unfold mkW
 rw [ByteArray.size_append, ByteArray.size_append]
 have h2 := (digs_len (n := m.2.toNat) oM).2
 have h3 : (⟨(digs m.2.toNat).toArray⟩ : BA).size = (digs m.2.toNat).length := by simp [ByteArray.size]
 have h4 : (⟨#[61]⟩ : BA).size = 1 := rfl
 omega
theorem wds_size {ms : List Mrk} (h : msB ms = true) (k : Nat) : ((wds ms).getD k ByteArray.empty).size <= 13 := by
 by_cases hk : k < ms.length
 . rw [wds_at hk]
   have := msB_at h hk
   exact mkW_size this.1 this.2.2
 . rw [gdE, List.getElem?_eq_none (by rw [wds_len]; omega)]
   exact Nat.zero_le _
theorem jn_size : ∀ (k : Nat) (ws : List BA), (∀ k, (ws.getD k ByteArray.empty).size <= 13) -> k <= ws.length -> (jn (ws.take k)).size <= 14 * k
 | 0, ws, _, _ => by simp [jn_nil, ByteArray.size]
 | k + 1, ws, h, hk => by
   have ih := jn_size k ws h oM
   rw [jn_take oM]
   have hx := h k
   rcases Nat.eq_zero_or_pos k with hz | hp
   . subst hz
     rw [List.take_zero, List.nil_append, jn_one]; omega
   . rw [jn_snoc (by rw [List.length_take]; omega), ByteArray.size_append, ByteArray.size_append]
     have h4 : (⟨#[44]⟩ : BA).size = 1 := rfl
     omega
theorem jn_all {ws : List BA} (h : ∀ k, (ws.getD k ByteArray.empty).size <= 13) : (jn ws).size <= 14 * ws.length := by
 have := jn_size ws.length ws h nle
 rwa [List.take_length] at this
theorem RowI.new4 (w : World) {B : Nat} (a b c d : Int) (hB : B <= w.heap.size) : RowI (w.alloc (.cells #[ii a, ii b, ii c, ii d] 3)) B (sC (some ⟨w.heap.size, 0, none⟩) 4 4) [a, b, c, d] :=
 ⟨rfl, .inr ⟨_, 4, #[ii a, ii b, ii c, ii d], rfl, hB, heap_alloc_new w _, Nat.le_refl _, by unfold maxLen; omega, rfl, rfl⟩⟩
theorem iV_one' (xs : List Int) : ∀ u ∈ iV xs, u.oneCell' = true := fun u hu => by
 unfold iV at hu
 obtain ⟨x, _, rfl⟩ := List.mem_map.1 hu
 rfl
theorem iV_len' (xs : List Int) : (iV xs).length = xs.length := by unfold iV; simp
theorem grewT_refl' (t : TypeId) (B : Nat) (w : World) : GrewT t B w w := ⟨fun _ h _ => h, fun _ _ _ h _ => h, fun _ _ _ _ h => h, Nat.le_refl _⟩
theorem grewT_of' {w w' : World} {B : Nat} {v : Value} {xs : List Int} (hown : RowI w B v xs) (hg' : w.grownBy w' v.ownBlock) : GrewT 3 B w w' := by
 have hrow : ∀ k, Value.ownBlock v = some k -> B <= k := fun k hk => (World.ownsRow.lt hown k hk).1
 refine ⟨fun b hb hbB => Below.grown hb hg' hb.size (fun k hk => ntr hbB (hrow k hk)), fun lo hi b hb hbB => ?_, fun g t xs' ht hbg => hbg.grown hg' (hown.ne hbg ht), hg'.size⟩
 refine ⟨hg'.os.trans hb.os, hg'.tape.trans hb.tape, hg'.output.trans hb.output, ntr hb.size hg'.size, fun k hk hr => (hg'.block k (Nat.lt_of_lt_of_le hk hb.size) fun e => ?_).trans (hb.block k hk hr)⟩
 have := hrow k e.symm
 omega
theorem wpList_app4I {w : World} {ops : Array Oper} {rest : List Oper} {o : Oper} {a : Act} {Q : Exit -> Act -> World -> Prop}
 (hgd : o.guard = none) (s x : Operand) (ho : o.op = .call { callee := .builtin .append, args := #[s, x], argTypes := #[23, 23] })
 (B g0 : Nat) (A : Option Addr) (c : Nat) (ys xs : List Int) (hys : ys.length = 4) (hs : a.eval s = sC (some ⟨g0, 0, none⟩) 4 4) (hx : a.eval x = sC A xs.length c) (hown : RowI w B (sC (some ⟨g0, 0, none⟩) 4 4) ys) {B' : Nat} (hrow : Ins w B' A xs)
 (hm : xs.length <= 1048576) (hB : B <= w.heap.size)
 (hK : ∀ A' k' w', RowI w' B (sC A' (xs.length + 4) k') (ys ++ xs) -> GrewT 3 B w w' -> wpList Tryz.prog ops Q rest (a.put o.dst (sC A' (xs.length + 4) k')) w') :
 wpList Tryz.prog ops Q (o :: rest) a w := by
 refine wpList_plain hgd fun K hK' => ?_
 obtain ⟨i0, hi0, hz0, hz1, hz2⟩ := info_parts info_int
 rcases Nat.eq_zero_or_pos xs.length with h0 | hp
 . have hgs : xs = [] := List.eq_nil_of_length_eq_zero h0
   subst hgs
   have hrun : (Builtin.append_ #[23, 23] o.type #[sC (some ⟨g0, 0, none⟩) 4 4, sC A 0 c]).run Tryz.prog w = .ok (sC (some ⟨g0, 0, none⟩) 4 4) w := by
    rcases A with _ | a'
    . simp [Builtin.append_, run_underlying underlying23, sizeOf, typeInfo, hi0, Builtin.lenOf, Builtin.firstCells, storeCells]
    . simp [Builtin.append_, run_underlying underlying23, sizeOf, typeInfo, hi0, Builtin.lenOf, Builtin.firstCells, storeCells, loadCells, loadCellsFrom]
   have hx' : a.eval x = sC A 0 c := hx
   unfold Oper.wp execOp
   simp only [ho, resolve, invoke, builtin, Sem.run_bind, Sem.run_pure, Result.andThen_ok, List.map_toArray, List.map_cons, List.map_nil, hs, hx', hrun]
   exact hK' _ _ (hK _ _ w (by rw [List.append_nil]; exact hown) (grewT_refl' _ _ _))
 . obtain ⟨b, off, rfl, hb, hc⟩ := hrow oM
   have hown' : w.ownsRow B 3 1 (sC (some ⟨g0, 0, none⟩) 4 4) 4 (iV ys) := by have := hown; unfold RowI at this; rwa [hys] at this
   refine wp_append_own w s x 23 ho B 3 i0 _ 1 8 underlying23 hi0 hz0 hz1 hz2 rfl oM _ 4 _ hs hown' ⟨b, off, none⟩ xs.length c (iV xs) hx (by rw [iV_len', Nat.mul_one]) (fun j u hj => ?_) (iV_one' xs) (by unfold maxLen; omega) oM hB ?_
   . have hj' : j < xs.length := by
      have := (List.getElem?_eq_some_iff.1 hj).1
      rwa [iV_len'] at this
     rw [iV_get xs j hj'] at hj
     rw [addr_add', hc j hj']
     exact hj
   . intro v' w' hw' hg' _
     have hr : RowI w' B v' (ys ++ xs) := by
      unfold RowI
      have e : (ys ++ xs).length = 4 + xs.length := by rw [List.length_append, hys]
      rw [e]
      unfold iV at hw' ⊢
      rw [List.map_append]
      exact hw'
     obtain ⟨A', k', rfl, _⟩ := hr.sl
     have e : (ys ++ xs).length = xs.length + 4 := by rw [List.length_append, hys]; omega
     rw [e] at hr ⊢
     exact hK' _ _ (hK A' k' w' hr (grewT_of' hown hg'))
def wV (ws : List BA) : List Value := ws.map .string
theorem infoS : (Tryz.prog.info? 9).map (fun i => (i.zero, i.size, i.bytes)) = some (some (.string ByteArray.empty), 1, 16) := by kernel_rfl
def RowW (w : World) (B : Nat) (v : Value) (ws : List BA) : Prop := w.ownsRow B 9 1 v ws.length (wV ws)
theorem RowW.new (w : World) {B : Nat} (hB : B <= w.heap.size) : RowW (w.alloc (.cells #[] 9)) B (sC (some ⟨w.heap.size, 0, none⟩) 0 0) [] :=
 ⟨rfl, .inr ⟨_, 0, #[], rfl, hB, heap_alloc_new w _, by simp, by unfold maxLen; omega, rfl, rfl⟩⟩
theorem RowW.nx {w w' : World} {B : Nat} {v : Value} {ws : List BA} (h : RowW w B v ws) (hb : Nx w w') : RowW w' B v ws := by
 refine World.ownsRow.kept (row := none) h ⟨hb.os, hb.tape, hb.output, hb.size, fun i hi _ => hb.block i hi⟩ ?_
 cases hv : v.ownBlock with
 | none => exact .inl rfl
 | some g => exact .inr (by simp)
theorem wV_get (ws : List BA) (i : Nat) (h : i < ws.length) : (wV ws)[i]? = some (wdAt ws i) := by
 unfold wV wdAt
 rw [List.getElem?_map, List.getElem?_eq_getElem h, gdE, List.getElem?_eq_getElem h]; rfl
theorem RowW.sl {w : World} {B : Nat} {v : Value} {ws : List BA} (h : RowW w B v ws) : ∃ A c, v = sC A ws.length c /\ Sl w B A 9 ws.length (wdAt ws) := by
 rcases h.2 with ⟨rfl, h0⟩ | ⟨g, cap, cur, rfl, hb, hg, hnc, _, hcs, htk⟩
 . exact ⟨none, 0, by rw [h0], fun hn => oM⟩
 . refine ⟨_, cap, rfl, Sl.own ⟨cur, hg, oM, fun i hi => ?_⟩ hb⟩
   have h1 : (cur.toList.take (ws.length * 1))[i]? = some (wdAt ws i) := by rw [htk]; exact wV_get ws i hi
   rw [List.getElem?_take_of_lt oM] at h1
   simpa using h1
theorem Nx.of_two' {a w u : World} (h : Nx a w) (k : Nx a u) : ∀ p : Addr, p.block < a.heap.size -> w.cell? p = u.cell? p := fun p hp => (h.cell hp).trans (k.cell hp).symm
end
end Go.Proofs.YtieoiailjjnnoaaGreatDoor
namespace Go.Proofs
set_option linter.unusedVariables false
open _root_.Go.Proofs.Tryz
set_option maxRecDepth 100000
set_option maxHeartbeats 16000000
section
open Go.Shelf
def Tryz.lays145_ren : Go.Shelf.Ren := ⟨fun | 145 => 113 | 220 => 180 | 219 => 214 | 217 => 232 | 225 => 233 | 224 => 234 | 267 => 235 | 266 => 245 | 314 => 246 | n => n, fun | 9 => 9 | 4 => 4 | 59 => 148 | 3 => 3 | 5 => 5 | 46 => 264 | 146 => 275 | 51 => 274 | n => n, fun | 1 => 3 | n => n⟩
theorem Tryz.lays145 : Go.Proofs.Lays.n145 Tryz.prog Tryz.lays145_ren := {
 mixed := by kernel_rfl
 f145 := func113.trans (congrArg some (by kernel_rfl))
 f217 := func232.trans (congrArg some (by kernel_rfl))
 f219 := func214.trans (congrArg some (by kernel_rfl))
 f220 := func180.trans (congrArg some (by kernel_rfl))
 f224 := func234.trans (congrArg some (by kernel_rfl))
 f225 := func233.trans (congrArg some (by kernel_rfl))
 f266 := func245.trans (congrArg some (by kernel_rfl))
 f267 := func235.trans (congrArg some (by kernel_rfl))
 f314 := func246.trans (congrArg some (by kernel_rfl))
 t3 := underlying3
 a3 := isAgg3
 z3 := sizeOf3
 v3 := zeroValue3
 t4 := underlying4
 a4 := isAgg4
 z4 := sizeOf4
 v4 := zeroValue4
 t5 := underlying5
 a5 := isAgg5
 z5 := sizeOf5
 v5 := zeroValue5
 t9 := underlying9
 a9 := isAgg9
 z9 := sizeOf9
 v9 := zeroValue9
 t46 := underlying264
 a46 := isAgg264
 z46 := sizeOf264
 v46 := zeroValue264
 t51 := underlying274
 a51 := isAgg274
 z51 := sizeOf274
 v51 := zeroValue274
 t59 := underlying148
 a59 := isAgg148
 z59 := sizeOf148
 v59 := zeroValue148
 t146 := underlying275
 a146 := isAgg275
 z146 := sizeOf275
 v146 := zeroValue275
 g1 := by kernel_rfl }
def Tryz.lays146_ren : Go.Shelf.Ren := ⟨fun | 146 => 182 | 221 => 216 | 268 => 236 | 138 => 237 | 143 => 238 | 195 => 247 | 197 => 248 | 218 => 249 | 219 => 214 | 260 => 255 | 217 => 232 | 225 => 233 | 224 => 234 | 267 => 235 | 266 => 245 | 314 => 246 | n => n, fun | 9 => 9 | 31 => 32 | 3 => 3 | 4 => 4 | 0 => 0 | 105 => 277 | 21 => 21 | 5 => 5 | 46 => 264 | 119 => 284 | 139 => 287 | 138 => 286 | 146 => 275 | 51 => 274 | n => n, fun | 1 => 3 | 3 => 5 | 4 => 6 | n => n⟩
theorem Tryz.lays146 : Go.Proofs.Lays.n146 Tryz.prog Tryz.lays146_ren := {
 mixed := by kernel_rfl
 f138 := func237.trans (congrArg some (by kernel_rfl))
 f143 := func238.trans (congrArg some (by kernel_rfl))
 f146 := func182.trans (congrArg some (by kernel_rfl))
 f195 := func247.trans (congrArg some (by kernel_rfl))
 f197 := func248.trans (congrArg some (by kernel_rfl))
 f217 := func232.trans (congrArg some (by kernel_rfl))
 f218 := func249.trans (congrArg some (by kernel_rfl))
 f219 := func214.trans (congrArg some (by kernel_rfl))
 f221 := func216.trans (congrArg some (by kernel_rfl))
 f224 := func234.trans (congrArg some (by kernel_rfl))
 f225 := func233.trans (congrArg some (by kernel_rfl))
 f260 := func255.trans (congrArg some (by kernel_rfl))
 f266 := func245.trans (congrArg some (by kernel_rfl))
 f267 := func235.trans (congrArg some (by kernel_rfl))
 f268 := func236.trans (congrArg some (by kernel_rfl))
 f314 := func246.trans (congrArg some (by kernel_rfl))
 t0 := underlying0
 a0 := isAgg0
 z0 := sizeOf0
 v0 := zeroValue0
 t3 := underlying3
 a3 := isAgg3
 z3 := sizeOf3
 v3 := zeroValue3
 t4 := underlying4
 a4 := isAgg4
 z4 := sizeOf4
 v4 := zeroValue4
 t5 := underlying5
 a5 := isAgg5
 z5 := sizeOf5
 v5 := zeroValue5
 t9 := underlying9
 a9 := isAgg9
 z9 := sizeOf9
 v9 := zeroValue9
 t21 := underlying21
 a21 := isAgg21
 z21 := sizeOf21
 v21 := zeroValue21
 t31 := underlying32
 a31 := isAgg32
 z31 := sizeOf32
 v31 := zeroValue32
 t46 := underlying264
 a46 := isAgg264
 z46 := sizeOf264
 v46 := zeroValue264
 t51 := underlying274
 a51 := isAgg274
 z51 := sizeOf274
 v51 := zeroValue274
 t105 := underlying277
 a105 := isAgg277
 z105 := sizeOf277
 v105 := zeroValue277
 t119 := underlying284
 a119 := isAgg284
 z119 := sizeOf284
 t138 := underlying286
 a138 := isAgg286
 z138 := sizeOf286
 v138 := zeroValue286
 t139 := underlying287
 a139 := isAgg287
 z139 := sizeOf287
 v139 := zeroValue287
 t146 := underlying275
 a146 := isAgg275
 z146 := sizeOf275
 v146 := zeroValue275
 g1 := by kernel_rfl
 g3 := by kernel_rfl
 g4 := by kernel_rfl }
end
end Go.Proofs
namespace Go.Proofs.YtieoiailjjnnoaaGreatDoor
set_option linter.unusedVariables false
open _root_.Go.Proofs.Tryz
set_option maxRecDepth 100000
set_option maxHeartbeats 16000000
section
open Go.RowKit
def Mx (w : World) : Prop := ∃ m : Int, w.cell? ⟨3, 0, none⟩ = some (ii m)
theorem Mx.nx {w w' : World} (h : Mx w) (hb : Nx w w') : Mx w' := by
 obtain ⟨m, h⟩ := h
 exact ⟨m, (hb.cell (World.block_lt_of_cell? w _ h)).trans h⟩
theorem cut_c (s : BA) (c : UInt8) (w : World) (hs : s.size <= 65536) (hm : Mx w) :
 Calls Tryz.prog 113 #[.string s, .string ⟨#[c]⟩] w fun e w' => e = .returned (.tuple #[.string (baL (Lib.cut s.data.toList [c]).1), .string (baL (Lib.cut s.data.toList [c]).2.1), .bool (Lib.cut s.data.toList [c]).2.2]) /\ Nx w w' := by
 obtain ⟨m, hm⟩ := hm
 refine (Any.strings_Cut Tryz.lays145 s ⟨#[c]⟩ m w oM hm).mono ?_
 rintro e w' ⟨he, n, rfl⟩
 exact ⟨he, (Nx.refl w).drewN n⟩
def RetWs (w : World) (ws : List BA) (e : Ending) (w' : World) : Prop := ∃ (A : Option Addr) (c : Nat), e = .returned (sC A ws.length c) /\ Sl w' w.heap.size A 9 ws.length (wdAt ws) /\ Nx w w'
theorem split_c (s : BA) (c : UInt8) (w : World) (hs : s.size <= 65536) (hm : Mx w) :
 Calls Tryz.prog 182 #[.string s, .string ⟨#[c]⟩] w (RetWs w (cutB c s)) := by
 obtain ⟨m, hm⟩ := hm
 refine (Any.strings_Split Tryz.lays146 infoS s ⟨#[c]⟩ m w oM hm (by simp [ByteArray.size])).mono ?_
 rintro e w' ⟨he, rfl⟩
 rw [cutB_count] at he
 refine ⟨_, _, he, ?_, (Nx.refl w).alloc _⟩
 rw [cutB_split]
 refine Sl.own ⟨_, heap_alloc_new w _, by simp, fun i hi => ?_⟩ nle
 rw [List.getElem?_toArray]
 exact wV_get _ i hi
theorem drop_hit {c : UInt8} {l : List UInt8} {f i : Nat} (hfi : f <= i) (hi : i < l.length) (hc : l[i] = c) (hn : c ∉ (l.drop f).take (i - f)) : cutL c (l.drop f) = (l.drop f).take (i - f) :: cutL c (l.drop (i + 1)) := by
 have e : l.drop f = (l.drop f).take (i - f) ++ c :: l.drop (i + 1) := by
  conv => lhs; rw [<- List.take_append_drop (i - f) (l.drop f)]
  rw [List.drop_drop, show f + (i - f) = i by omega, List.drop_eq_getElem_cons hi, hc]
 conv => lhs; rw [e]
 exact cutL_hit c _ _ hn
theorem take_grow {l : List UInt8} {f i : Nat} (hfi : f <= i) (hi : i < l.length) : (l.drop f).take (i + 1 - f) = (l.drop f).take (i - f) ++ [l[i]] := by
 rw [show i + 1 - f = (i - f) + 1 by omega, List.take_succ_eq_append_getElem (by rw [List.length_drop]; omega), List.getElem_drop]
 simp only [show f + (i - f) = i by omega]
theorem ext_baL (s : BA) (f i : Nat) : s.extract f i = baL ((s.data.toList.drop f).take (i - f)) := by
 rw [ba_eq (Lib.extract_data s f i)]; rfl
theorem wV_app (ws : List BA) (x : BA) : wV (ws ++ [x]) = wV ws ++ [.string x] := by unfold wV; simp
theorem Own.newS (w : World) (x : BA) : Hid (∀ j u, [Value.string x][j]? = some u -> (w.alloc (.cells #[.string x] 9)).cell? ((Addr.mk w.heap.size 0 none).add j) = some u) := qh (news1 w 9 (.string x))
theorem l00Cut_c (s : BA) (c : UInt8) (w : World) (hs : s.size <= 65536) : Calls Tryz.prog 193 #[.string s, .int .u8 (c.toNat : Int)] w (RetWs w (cutB c s)) := by
 obtain ⟨i0, hi0, hz0, hz1, hz2⟩ := info_parts infoS
 have hw0 := RowW.new w (B := w.heap.size) nle
 have hn0 := (Nx.refl w).alloc (.cells #[] 9)
 go_enter func193, ntmps193
 go_wp2
 go_loopw [5, 6, 7] (fun o f i wr => ∃ (k q : Nat) (v : Value) (ws : List BA), q <= k /\ k <= s.size /\ i = ii k /\ f = ii q /\ v = o /\ ws.length <= k /\ RowW wr w.heap.size v ws /\ Hid (cutB c s = ws ++ (cutL c (s.data.toList.drop q)).map baL /\ c ∉ (s.data.toList.drop q).take (k - q)) /\ Nx w wr) (fun _ _ i _ => s.size - (intOf i).toNat)
 case atStart => exact ⟨0, 0, _, [], Nat.le_refl _, Nat.zero_le _, rfl, rfl, rfl, Nat.le_refl _, hw0, qh ⟨rfl, by simp⟩, hn0⟩
 case round =>
  obtain ⟨k, q, v, ws, hqk, hk, rfl, rfl, rfl, hwl, hw, HR, hnx⟩ := hrel
  clear hw0 hn0
  by_cases hlt : k < s.size
  . have hlt' : k < s.data.toList.length := by rw [<- ba_size]; exact hlt
    have Hlt := qh hlt'
    clear hlt'
    by_cases hc : s[k] = c
    . have hcd : ((s[k].toNat : Int) == (c.toNat : Int)) = true := by rw [hc]; simp
      have HH := qh (drop_hit (f := q) hqk Hlt.out (by rw [getL s k hlt]; exact hc) HR.out.2)
      have hb1 : (0 : Int) <= (q : Int) := oM
      have hb2 : (q : Int) <= (k : Int) := oM
      have hb3 : (k : Int) <= (s.size : Int) := oM
      obtain ⟨x, hx⟩ : ∃ x, s.extract q k = x := ⟨_, rfl⟩
      have HX := qh ((ext_baL s q k).symm.trans hx)
      clear hc
      have hw1 := hw.nx ((Nx.refl wr).alloc (.cells #[.string x] 9))
      have hx1 := hnx.alloc (.cells #[.string x] 9)
      have HNW := Own.newS wr x
      have HO : Hid (∀ u ∈ [Value.string x], u.oneCell' = true) := qh (fun u hu => by simp only [List.mem_cons, List.not_mem_nil, or_false] at hu; subst hu; rfl)
      unfold RowW at hw1
      go_wp2_with (at_builtin; refine wpList_append_own _ rfl _ _ 32 rfl w.heap.size 9 i0 _ 1 16 underlying32 hi0 hz0 hz1 hz2 rfl oM v ws.length _ rfl hw1 ⟨wr.heap.size, 0, none⟩ 1 1 [.string x] rfl rfl HNW.out HO.out ?c3 ?c4 ?c5 ?_)
      case c3 => unfold maxLen; omega
      case c4 => omega
      case c5 => have := hx1.size; simp only [World.size_alloc] at this ⊢; omega
      intro v2 w2 hw2 hg2 _
      have hx2 : Nx w w2 := Below.grown hx1 hg2 hx1.size (fun k hk => (hw1.lt k hk).1)
      go_wp2
      go_roundw
      case rel =>
       refine ⟨k + 1, k + 1, v2, ws ++ [x], Nat.le_refl _, oM, by go_num, by go_num, rfl, by simp; omega, ?_, qh ⟨?_, by simp⟩, hx2⟩
       . unfold RowW; rw [wV_app, List.length_append]; exact hw2
       . rw [HR.out.1, HH.out, List.map_cons, HX.out]; simp
      case measure => simp [intOf]; omega
    . have hcd : ((s[k].toNat : Int) == (c.toNat : Int)) = false := by
       rw [beq_eq_false_iff_ne]; intro h; exact hc (UInt8.toNat_inj.1 oM)
      have HC := qh hc
      clear hc
      go_wp2
      go_roundw
      case rel =>
       refine ⟨k + 1, q, v, ws, oM, oM, by go_num, rfl, rfl, oM, hw, qh ⟨HR.out.1, ?_⟩, hnx⟩
       rw [take_grow hqk Hlt.out, List.mem_append, not_or]
       refine ⟨HR.out.2, fun h => HC.out ?_⟩
       rw [List.mem_singleton] at h
       exact (getL s k hlt).symm.trans h.symm
      case measure => simp [intOf]; omega
  . obtain rfl : k = s.size := oM
    have hb2 : (q : Int) <= (s.size : Int) := oM
    have hb1 : (0 : Int) <= (q : Int) := oM
    obtain ⟨x, hx⟩ : ∃ x, s.extract q s.size = x := ⟨_, rfl⟩
    have HX := qh ((ext_baL s q s.size).symm.trans hx)
    have hw1 := hw.nx ((Nx.refl wr).alloc (.cells #[.string x] 9))
    have hx1 := hnx.alloc (.cells #[.string x] 9)
    have HNW := Own.newS wr x
    have HO : Hid (∀ u ∈ [Value.string x], u.oneCell' = true) := qh (fun u hu => by simp only [List.mem_cons, List.not_mem_nil, or_false] at hu; subst hu; rfl)
    unfold RowW at hw1
    go_wp2_with (at_builtin; refine wpList_append_own _ rfl _ _ 32 rfl w.heap.size 9 i0 _ 1 16 underlying32 hi0 hz0 hz1 hz2 rfl oM v ws.length _ rfl hw1 ⟨wr.heap.size, 0, none⟩ 1 1 [.string x] rfl rfl HNW.out HO.out ?c3 ?c4 ?c5 ?_)
    case c3 => unfold maxLen; omega
    case c4 => omega
    case c5 => have := hx1.size; simp only [World.size_alloc] at this ⊢; omega
    intro v2 w2 hw2 hg2 _
    have hx2 : Nx w w2 := Below.grown hx1 hg2 hx1.size (fun k hk => (hw1.lt k hk).1)
    have HE : Hid (cutB c s = ws ++ [x]) := qh (by
     have e : (s.data.toList.drop q).take (s.size - q) = s.data.toList.drop q := List.take_of_length_le (by rw [List.length_drop, <- ba_size]; omega)
     have h2 := HR.out.2
     rw [e] at h2
     have h3 := HX.out
     rw [e] at h3
     rw [HR.out.1, cutL_miss c _ h2, List.map_cons, List.map_nil, h3])
    have hR2 : RowW w2 w.heap.size v2 (cutB c s) := by
     rw [HE.out]; unfold RowW; rw [wV_app, List.length_append]; exact hw2
    obtain ⟨A, cp, rfl, hS⟩ := hR2.sl
    go_wp2
    go_ret
    exact ⟨A, cp, rfl, hS, hx2⟩
theorem valTo_bd17 {s : BA} {k : Nat} (hk : k <= 17) (h : digL (s.data.toList.take k) = true) : valTo s k < 100000000000000000 := by
 have h1 := valL_bd _ rfl h
 have h2 : (s.data.toList.take k).length <= 17 := ntr (List.length_take_le _ _) hk
 have h3 : 10 ^ (s.data.toList.take k).length <= 10 ^ 17 := Nat.pow_le_pow_right oM h2
 unfold valTo
 omega
theorem valL_bd18 {l : List UInt8} (hk : l.length <= 18) (h : digL l = true) : valL l < 1000000000000000000 := by
 have h1 := valL_bd _ rfl h
 have h3 : 10 ^ l.length <= 10 ^ 18 := Nat.pow_le_pow_right oM hk
 omega
theorem digs_len18 {n : Nat} (h : n < 1000000000000000000) : 1 <= (digs n).length /\ (digs n).length <= 18 := by
 refine ⟨?_, (digs_pad 17 n oM).1⟩
 by_cases h' : n < 10
 . rw [digs_lt h']; simp
 . rw [digs_ge h']; simp
theorem valL_pos : ∀ (n : Nat) {l : List UInt8}, l.length = n -> digL l = true -> l ≠ [] -> l.head? ≠ some 48 -> 1 <= valL l := by
 intro n
 induction n with
 | zero => intro l hl _ hne _; exact absurd (List.length_eq_zero_iff.1 hl) hne
 | succ n ih =>
   intro l hl h hne hh
   rcases List.eq_nil_or_concat l with rfl | ⟨l', c, rfl⟩
   . exact absurd rfl hne
   . rw [List.concat_eq_append] at hl h hh ⊢
     rw [digL_snoc, Bool.and_eq_true] at h
     rw [valL_snoc]
     rcases l' with _ | ⟨x, l'⟩
     . have h2 := digI_yes (show digI (c.toNat : Int) = true from h.2)
       have hc : c.toNat ≠ 48 := fun e => hh (by simp only [List.nil_append, List.head?_cons, Option.some.injEq]; exact UInt8.toNat_inj.1 e)
       simp only [valL, List.foldl_nil]
       omega
     . have := ih (l := x :: l') (by simpa using hl) h.1 (by simp) (by simpa using hh)
       omega
theorem digs_valL : ∀ (n : Nat) {l : List UInt8}, l.length = n -> digL l = true -> l ≠ [] -> (l.length = 1 \/ l.head? ≠ some 48) -> digs (valL l) = l := by
 intro n
 induction n with
 | zero => intro l hl _ hne _; exact absurd (List.length_eq_zero_iff.1 hl) hne
 | succ n ih =>
   intro l hl h hne hh
   rcases List.eq_nil_or_concat l with rfl | ⟨l', c, rfl⟩
   . exact absurd rfl hne
   . rw [List.concat_eq_append] at hl h hh ⊢
     rw [digL_snoc, Bool.and_eq_true] at h
     have h2 := digI_yes (show digI (c.toNat : Int) = true from h.2)
     have hc : UInt8.ofNat (48 + (c.toNat - 48)) = c := by
      rw [show 48 + (c.toNat - 48) = c.toNat by omega]; simp
     rw [valL_snoc]
     rcases l' with _ | ⟨x, l'⟩
     . simp only [valL, List.foldl_nil, Nat.mul_zero, Nat.zero_add, List.nil_append]
       rw [digs_lt oM, hc]
     . have hx : (x :: l').head? ≠ some 48 := by
        rcases hh with hh | hh
        . simp at hh
        . simpa using hh
       have h1 := valL_pos _ rfl h.1 (by simp) hx
       have h3 := ih (l := x :: l') (by simpa using hl) h.1 (by simp) (.inr hx)
       have e1 : (10 * valL (x :: l') + (c.toNat - 48)) / 10 = valL (x :: l') := oM
       have e2 : (10 * valL (x :: l') + (c.toNat - 48)) % 10 = c.toNat - 48 := oM
       rw [digs_ge oM, e1, e2, h3, hc]
theorem plain_digs {l : List UInt8} (h : plainB l = true) : digs (valL l) = l :=
 digs_valL _ rfl (plainB_dig h) (fun e => by have := (plainB_len h).1; rw [e] at this; simp at this) (plainB_head h)
theorem numberOf18_c (s : BA) (w : World) (a0 a1 : Addr) (hs : s.size <= 18) (hE : Er w a0 a1) :
 Calls Tryz.prog 181 #[.string s] w (RetN w (numV s a0)) := by
 obtain ⟨c0, _⟩ := hE
 go_enter func181, ntmps181
 go_wp2
 go_loop [4, 5] (fun n i => ∃ k : Nat, k <= s.size /\ i = ii k /\ digL (s.data.toList.take k) = true /\ n = ii ((valTo s k : Nat) : Int)) (fun _ i => s.size - (intOf i).toNat)
 case atStart => exact ⟨0, Nat.zero_le _, rfl, rfl, rfl⟩
 case round =>
  obtain ⟨k, hk, rfl, hd, rfl⟩ := hrel
  have HD := qh hd
  clear hd
  by_cases hlt : k < s.size
  . have hbd := valTo_bd17 (s := s) (k := k) oM HD.out
    have HV := qh (valTo_succ s k hlt)
    have HT := qh (take_snoc s k hlt)
    obtain ⟨m, Hm⟩ := nM (valTo s k)
    rw [Hm.out] at hbd HV ⊢
    cases hC : digI (s[k].toNat : Int) with
    | true =>
      obtain ⟨h1, h2⟩ := digI_yes hC
      have HC := qh hC
      clear hC
      go_wp2_with (go_at_call 215; refine (isDigit_c _ _).mono ?_; rintro e w' ⟨rfl, rfl⟩; rw [HC.out])
      go_round
      case rel => exact ⟨k + 1, oM, by go_num, by rw [HT.out, digL_snoc, HD.out]; exact HC.out, by rw [HV.out, num_step h1]⟩
      case measure => simp [intOf]; omega
    | false =>
      have HC := qh hC
      have HF := qh (digL_no (l := s.data.toList) (k := k) (by simpa using hlt) (by rw [getL s k hlt]; exact hC))
      clear hC
      go_wp2_with (go_at_call 215; refine (isDigit_c _ _).mono ?_; rintro e w' ⟨rfl, rfl⟩; rw [HC.out])
      go_quiet (fail)
      go_wp2
      go_ret2
      exact ⟨congrArg Ending.returned (numV_no HF.out), (Nx.refl _).drewN _⟩
  . obtain rfl : k = s.size := oM
    have e : s.data.toList.take s.size = s.data.toList := List.take_of_length_le (by simp)
    rw [e] at HD
    have HV := qh (show valTo s s.size = valL s.data.toList by unfold valTo; rw [e])
    rw [HV.out]
    clear e
    go_wp2
    go_ret2
    exact ⟨congrArg Ending.returned (numV_yes HD.out), Nx.refl _⟩
def plainV (s : BA) (a0 : Addr) : Value := if plainB s.data.toList then .tuple #[ii ((valL s.data.toList : Nat) : Int), .nilIface] else .tuple #[ii 0, .iface 290 (.pointer (some a0))]
theorem plainV_no {s : BA} {a0 : Addr} (h : plainB s.data.toList = false) : .tuple #[ii 0, .iface 290 (.pointer (some a0))] = plainV s a0 := by unfold plainV; rw [h]; rfl
theorem plainV_yes {s : BA} {a0 : Addr} (h : plainB s.data.toList = true) : .tuple #[ii ((valL s.data.toList : Nat) : Int), .nilIface] = plainV s a0 := by unfold plainV; rw [h]; rfl
theorem plainV_num {s : BA} {a0 : Addr} (h : plainB s.data.toList = digL s.data.toList) : numV s a0 = plainV s a0 := by unfold plainV numV; rw [h]
theorem head_at {s : BA} (h : 0 < s.size) : s.data.toList.head? = some s[0] := by
 have h' : 0 < s.data.toList.length := by rw [<- ba_size]; exact h
 rw [List.head?_eq_getElem?, List.getElem?_eq_getElem h', getL s 0 h]
theorem toNat48 {c : UInt8} (h : (c.toNat : Int) = 48) : c = 48 := UInt8.toNat_inj.1 (by simpa using (by omega : c.toNat = 48))
theorem plainNumberOf_c (s : BA) (w : World) (a0 a1 : Addr) (hs : s.size <= 65536) (hE : Er w a0 a1) :
 Calls Tryz.prog 183 #[.string s] w (RetN w (plainV s a0)) := by
 have c0 := hE.1
 have HE := qh hE
 clear hE
 by_cases h0 : s.size = 0
 . have hd : ((s.size : Int) == 0) = true := beq_iff_eq.2 oM
   have HF := qh (plainV_no (a0 := a0) (plainB_size (l := s.data.toList) (.inl (by rw [<- ba_size]; exact h0))))
   go_enter func183, ntmps183
   go_wp2
   go_quiet (fail)
   go_wp2
   go_ret2
   exact ⟨congrArg Ending.returned HF.out, (Nx.refl _).drewN _⟩
 have hd : ((s.size : Int) == 0) = false := beq_eq_false_iff_ne.2 oM
 by_cases h18 : 18 < s.size
 . have hd2 : decide (18 < (s.size : Int)) = true := by simp; omega
   have HF := qh (plainV_no (a0 := a0) (plainB_size (l := s.data.toList) (.inr (by rw [<- ba_size]; exact h18))))
   go_enter func183, ntmps183
   go_wp2
   go_quiet (fail)
   go_wp2
   go_ret2
   exact ⟨congrArg Ending.returned HF.out, (Nx.refl _).drewN _⟩
 have hd2 : decide (18 < (s.size : Int)) = false := by simp; omega
 have hp : 0 < s.size := oM
 by_cases h1 : 1 < s.size
 . have hd3 : decide (1 < (s.size : Int)) = true := by simp; omega
   by_cases h48 : (s[0].toNat : Int) = 48
   . have hd4 : ((s[0].toNat : Int) == 48) = true := beq_iff_eq.2 h48
     have HF := qh (plainV_no (a0 := a0) (plainB_nought (l := s.data.toList) (by rw [<- ba_size]; exact h1) (by rw [head_at hp, toNat48 h48])))
     clear h48
     go_enter func183, ntmps183
     go_wp2
     go_quiet (fail)
     go_wp2
     go_ret2
     exact ⟨congrArg Ending.returned HF.out, (Nx.refl _).drewN _⟩
   . have hd4 : ((s[0].toNat : Int) == 48) = false := beq_eq_false_iff_ne.2 h48
     have HF := qh (plainV_num (a0 := a0) (plainB_mk (l := s.data.toList) (by rw [<- ba_size]; omega) (by rw [<- ba_size]; omega) (.inr (by rw [head_at hp]; intro e; injection e with e; rw [e] at h48; exact h48 rfl))))
     clear h48
     go_enter func183, ntmps183
     go_wp2_with fail
     refine (numberOf18_c s _ a0 a1 oM HE.out).mono ?_
     rintro e w1 ⟨he, hnx⟩
     cases hpp : plainB s.data.toList with
     | true =>
       have HQ := qh (plainV_yes (a0 := a0) hpp)
       rw [HF.out, <- HQ.out] at he
       subst he
       clear hpp
       go_wp2
       go_ret2
       exact ⟨congrArg Ending.returned HQ.out, hnx⟩
     | false =>
       have HQ := qh (plainV_no (a0 := a0) hpp)
       rw [HF.out, <- HQ.out] at he
       subst he
       clear hpp
       go_wp2
       go_ret2
       exact ⟨congrArg Ending.returned HQ.out, hnx⟩
 . have hd3 : decide (1 < (s.size : Int)) = false := by simp; omega
   have HF := qh (plainV_num (a0 := a0) (plainB_mk (l := s.data.toList) (by rw [<- ba_size]; omega) (by rw [<- ba_size]; omega) (.inl (by rw [<- ba_size]; omega))))
   go_enter func183, ntmps183
   go_wp2_with fail
   refine (numberOf18_c s _ a0 a1 oM HE.out).mono ?_
   rintro e w1 ⟨he, hnx⟩
   cases hpp : plainB s.data.toList with
   | true =>
     have HQ := qh (plainV_yes (a0 := a0) hpp)
     rw [HF.out, <- HQ.out] at he
     subst he
     clear hpp
     go_wp2
     go_ret2
     exact ⟨congrArg Ending.returned HQ.out, hnx⟩
   | false =>
     have HQ := qh (plainV_no (a0 := a0) hpp)
     rw [HF.out, <- HQ.out] at he
     subst he
     clear hpp
     go_wp2
     go_ret2
     exact ⟨congrArg Ending.returned HQ.out, hnx⟩
theorem l00Digits18_c : ∀ (n : Nat) (w : World), n < 1000000000000000000 -> Calls Tryz.prog 108 #[ii n] w fun e w' => e = .returned (.string ⟨(digs n).toArray⟩) /\ Nx w w' := by
 intro n
 induction n using Nat.strongRecOn with
 | ind n ih =>
   intro w hn
   by_cases h' : n < 10
   . have hd : decide ((n : Int) < 10) = true := by simp; omega
     have hz : ((n : Int) == -9223372036854775808) = false := beq_eq_false_iff_ne.2 oM
     have HD := qh (digs_lt h')
     have hcv := cv_one (48 + n) oM oM
     go_enter func108, ntmps108
     go_wp2
     go_ret
     refine ⟨ret_str ?_, (Nx.refl _).alloc _⟩
     rw [HD.out]
   . have hd : decide ((n : Int) < 10) = false := by simp; omega
     have hz : ((n : Int) == -9223372036854775808) = false := beq_eq_false_iff_ne.2 oM
     have HD := qh (digs_ge h')
     obtain ⟨q, hq⟩ : ∃ q, n / 10 = q := ⟨_, rfl⟩
     obtain ⟨d, hd'⟩ : ∃ d, n % 10 = d := ⟨_, rfl⟩
     rw [hq, hd'] at HD
     have hd10 : d < 10 := oM
     have ihq := ih q oM
     have hq6 : q < 1000000000000000000 := oM
     obtain ⟨hl1, hl2⟩ := digs_len18 hq6
     have hcv := cv_one (48 + d) oM oM
     have e1 : IntKind.i64.wrap ((n : Int) / 10) = (q : Int) := by
      rw [show (n : Int) / 10 = (q : Int) by omega]; exact IntWalk.i64_in _ oM
     have e3 : (n : Int).tmod 10 = (d : Int) := by rw [Int.tmod_eq_emod_of_nonneg oM]; omega
     have e4 : IntKind.i64.wrap (48 + (d : Int)) = 48 + d := IntWalk.i64_in _ oM
     have e5 : IntKind.u8.wrap (48 + (d : Int)) = 48 + d := IntWalk.u8_in _ oM
     clear hq hd' ih
     go_enter func108, ntmps108
     go_wp2_with fail
     go_region_with (go_at_call 108; refine (ihq _ hq6).mono ?_; rintro e w1 ⟨rfl, hnx1⟩; have hcl := hnx1.cells)
     all_goals
      clear e1 e3 e4 e5 hcv ihq hcl
      go_wp2
      go_ret
      refine ⟨ret_str ?_, ?_⟩
      . rw [HD.out, ByteArray.mk_append_mk]; simp
      . first
         | exact (Nx.drew_r hnx1).alloc _
         | exact ((Nx.refl w).alloc _).drew.trans hnx1
         | exact (((Nx.refl w).alloc _).drew.trans hnx1).drew
def mV (ms : List Mrk) : List Value := ms.flatMap fun m => [.string m.1, ii m.2]
theorem mV_snoc (ms : List Mrk) (m : Mrk) : mV (ms ++ [m]) = mV ms ++ [.string m.1, ii m.2] := by
 unfold mV; rw [List.flatMap_append]; simp
theorem mV_get : ∀ (ms : List Mrk) (i : Nat), i < ms.length * 2 -> (mV ms)[i]? = some (mrAt ms i)
 | [], i, h => by simp at h
 | m :: ms, i, h => by
   show ([_, _] ++ mV ms)[i]? = _
   by_cases hi : i < 2
   . rw [List.getElem?_append_left (by simpa using hi)]
     match i, hi with
     | 0, _ => rfl
     | 1, _ => rfl
   . rw [List.getElem?_append_right (by simpa using hi)]
     show (mV ms)[i - 2]? = _
     rw [mV_get ms (i - 2) (by simp at h; omega)]
     have e1 : (i - 2) % 2 = i % 2 := oM
     have e2 : i / 2 = (i - 2) / 2 + 1 := oM
     unfold mrAt
     rw [e1, e2, List.getD_cons_succ]
def RowM (w : World) (B : Nat) (v : Value) (ms : List Mrk) : Prop := w.ownsRow B 136 2 v ms.length (mV ms)
theorem RowM.new (w : World) {B : Nat} (hB : B <= w.heap.size) : RowM (w.alloc (.cells #[] 136)) B (sC (some ⟨w.heap.size, 0, none⟩) 0 0) [] :=
 ⟨rfl, .inr ⟨_, 0, #[], rfl, hB, heap_alloc_new w _, by simp, by unfold maxLen; omega, rfl, rfl⟩⟩
theorem RowM.nil (w : World) (B : Nat) : RowM w B (nsl) [] := World.ownsRow_nil w B _ 2
theorem RowM.slc {w : World} {B : Nat} {v : Value} {ms : List Mrk} (h : RowM w B v ms) : ∃ A c, v = sC A ms.length c /\ ms.length <= c /\ SlM w B A ms := by
 rcases h.2 with ⟨rfl, h0⟩ | ⟨g, cap, cur, rfl, hb, hg, hnc, _, hcs, htk⟩
 . exact ⟨none, 0, by rw [h0], oM, fun hn => oM⟩
 . refine ⟨_, cap, rfl, oM, Sl.own ⟨cur, hg, by have := Nat.mul_le_mul_right 2 hnc; omega, fun i hi => ?_⟩ hb⟩
   have h1 : (cur.toList.take (ms.length * 2))[i]? = some (mrAt ms i) := by rw [htk]; exact mV_get ms i hi
   rw [List.getElem?_take_of_lt hi] at h1
   simpa using h1
section
variable {w w' : World} {B : Nat} {v : Value} {ms : List Mrk} {xs : List Int}
theorem RowM.nx (h : RowM w B v ms) (hb : Nx w w') : RowM w' B v ms := by
 refine World.ownsRow.kept (row := none) h ⟨hb.os, hb.tape, hb.output, hb.size, fun i hi _ => hb.block i hi⟩ ?_
 cases hv : v.ownBlock with
 | none => exact .inl rfl
 | some g => exact .inr (by simp)
theorem RowM.ne {g : Nat} {t : TypeId} {ys : Array Value} (h : RowM w B v ms) (hb : Box w g t ys) (ht : t ≠ 136) : some g ≠ v.ownBlock := by
 intro he
 rcases h.2 with ⟨rfl, _⟩ | ⟨g', cap, cur, rfl, _, hg, _⟩
 . simp [Value.ownBlock] at he
 . obtain rfl : g = g' := by simpa [Value.ownBlock] using he
   unfold Box at hb
   rw [hg] at hb
   injection hb with hb
   injection hb with _ hb
   exact ht hb.symm
theorem RowM.far {p : Addr} {t : TypeId} {ys : Array Value} (h : RowM w B v ms) (hb : Box w p.block t ys) (ht : t ≠ 136) (u : Value) : RowM (w.setCell p u) B v ms := by
 have hne := h.ne hb ht
 rcases h.2 with ⟨rfl, h0⟩ | ⟨g, cap, cur, rfl, hb', hg, r⟩
 . exact ⟨h.1, .inl ⟨rfl, h0⟩⟩
 . exact ⟨h.1, .inr ⟨g, cap, cur, rfl, hb', (Below.heap_setCell w p u g (fun e => hne (by rw [e]; rfl))).trans hg, r⟩⟩
theorem RowM.grew {t : TypeId} {B' : Nat} (h : RowM w B v ms) (hg : GrewT t B' w w') (ht : t ≠ 136) : RowM w' B v ms := by
 rcases h.2 with ⟨rfl, h0⟩ | ⟨g, cap, cur, rfl, hb', hgc, r⟩
 . exact ⟨h.1, .inl ⟨rfl, h0⟩⟩
 . exact ⟨h.1, .inr ⟨g, cap, cur, rfl, hb', hg.box g _ cur (fun e => ht e.symm) hgc, r⟩⟩
end
theorem wp_addM {w : World} {o : Oper} {a : Act} {K : Act -> World -> Prop} {Q : Exit -> Act -> World -> Prop}
 (s x : Operand) (ho : o.op = .call { callee := .builtin .append, args := #[s, x], argTypes := #[24, 24] })
 (B gd : Nat) (v : Value) (ms : List Mrk) (m : Mrk) (hs : a.eval s = v) (hx : a.eval x = sC (some ⟨gd, 0, none⟩) 1 1) (hown : RowM w B v ms) (hbx : Box w gd 136 #[.string m.1, ii m.2])
 (hl : ms.length <= 1048576) (hB : B <= w.heap.size)
 (hK : ∀ A' k' w', RowM w' B (sC A' (ms.length + 1) k') (ms ++ [m]) -> GrewT 136 B w w' -> K (a.put o.dst (sC A' (ms.length + 1) k')) w') :
 o.wp Tryz.prog a w K Q := by
 obtain ⟨i0, hi0, hz0, hz1, hz2⟩ := info_parts info_mk
 refine wp_append_own w s x 24 ho B 136 i0 _ 2 24 underlying24 hi0 hz0 hz1 hz2 rfl oM v ms.length _ hs hown ⟨gd, 0, none⟩ 1 1 [.string m.1, ii m.2] hx rfl (fun j u hj => ?_) (fun u hu => by simp only [List.mem_cons, List.not_mem_nil, or_false] at hu; rcases hu with rfl | rfl <;> rfl) (by unfold maxLen; omega) oM hB ?_
 . rw [addr_add', Nat.zero_add, hbx.cell j]
   rw [<- hj]
   rcases j with _ | _ | j <;> simp
 . intro v' w' hw' hg' _
   have hr : RowM w' B v' (ms ++ [m]) := by
    unfold RowM
    rw [mV_snoc, List.length_append]
    exact hw'
   obtain ⟨A', k', rfl, _⟩ := hr.slc
   rw [List.length_append] at hr ⊢
   have hrow : ∀ k, Value.ownBlock v = some k -> B <= k := fun k hk => (World.ownsRow.lt hown k hk).1
   refine hK A' k' w' hr ⟨fun b hb hbB => Below.grown hb hg' hb.size (fun k hk => ntr hbB (hrow k hk)), fun lo hi b hb hbB => ?_, fun g t xs' ht hbg => hbg.grown hg' (hown.ne hbg ht), hg'.size⟩
   refine ⟨hg'.os.trans hb.os, hg'.tape.trans hb.tape, hg'.output.trans hb.output, ntr hb.size hg'.size, fun k hk hr => (hg'.block k (Nat.lt_of_lt_of_le hk hb.size) fun e => ?_).trans (hb.block k hk hr)⟩
   have := hrow k e.symm
   omega
def RetMk (w : World) (o : Option (List Mrk)) (a0 : Addr) (e : Ending) (w' : World) : Prop :=
 Nx w w' /\ (o = none -> e = .returned (.tuple #[nsl, .iface 290 (.pointer (some a0))])) /\
 ∀ ms, o = some ms -> ∃ A c, e = .returned (.tuple #[sC A ms.length c, .nilIface]) /\ SlM w' w.heap.size A ms
theorem RetMk.no {w w' : World} {o : Option (List Mrk)} {a0 : Addr} (h : o = none) (hn : Nx w w') : RetMk w o a0 (.returned (.tuple #[nsl, .iface 290 (.pointer (some a0))])) w' :=
 ⟨hn, fun _ => rfl, fun ns h2 => by rw [h] at h2; cases h2⟩
theorem RetMk.yes {w w' : World} {o : Option (List Mrk)} {a0 : Addr} {ms : List Mrk} {A : Option Addr} {c : Nat} (h : o = some ms) (hr : SlM w' w.heap.size A ms) (hn : Nx w w') : RetMk w o a0 (.returned (.tuple #[sC A ms.length c, .nilIface])) w' :=
 ⟨hn, (fun h2 => by rw [h] at h2; cases h2), fun ns' h2 => by rw [h] at h2; injection h2 with h2; subst h2; exact ⟨A, c, rfl, hr⟩⟩
theorem wordB_cut {x : BA} {f : Bool} {a b : BA} (hf : (Lib.cut x.data.toList [61]).2.2 = f) (ha : baL (Lib.cut x.data.toList [61]).1 = a) (hb : baL (Lib.cut x.data.toList [61]).2.1 = b) :
 wordB x = if f && plainB b.data.toList then some (a, ((valL b.data.toList : Nat) : Int)) else none := by
 unfold wordB wordM
 rw [<- hb, baL_list, hf, ha]
theorem cut_len (l : List UInt8) (c : UInt8) : (Lib.cut l [c]).1.length <= l.length /\ (Lib.cut l [c]).2.1.length <= l.length := by
 rcases part_at c l with h | ⟨a, b, h, e⟩
 . rw [cut_miss h]; simp
 . rw [e, cut_hit h]; simp; omega
theorem newM (w : World) (a : BA) (n : Int) : Hid (∀ j u, [Value.string a, ii n][j]? = some u -> (w.alloc (.cells #[.string a, ii n] 136)).cell? ((Addr.mk w.heap.size 0 none).add j) = some u) := qh (fun j u hj => by
 have b := Box.new w 136 #[.string a, ii n]
 rw [addr_add', Nat.zero_add, b.cell j, <- hj]
 rcases j with _ | _ | j <;> simp)
theorem marksOf_c (s : BA) (w : World) (a0 a1 : Addr) (hs : s.size <= 65536) (hE : Er w a0 a1) (hM : Mx w) : Calls Tryz.prog 115 #[.string s] w (RetMk w (marksO s.data.toList) a0) := by
 obtain ⟨i0, hi0, hz0, hz1, hz2⟩ := info_parts info_mk
 by_cases h0 : s.size = 0
 . have hd : (s.toList == []) = true := by
    rw [beq_iff_eq, ByteArray.toList_eq]; exact List.eq_nil_of_length_eq_zero (by rw [<- ba_size]; exact h0)
   have HF := qh (marksO_nil h0)
   go_enter func115, ntmps115
   go_wp2
   go_ret2
   exact RetMk.yes (ms := []) HF.out (Sl.none_ _ _ _ _ _) (Nx.refl _)
 have hd : (s.toList == []) = false := by
  rw [beq_eq_false_iff_ne, ByteArray.toList_eq]; intro h; exact h0 (by rw [ba_size, h]; rfl)
 have HO := qh (marksO_cut h0)
 go_enter func115, ntmps115
 go_wp2_with fail
 refine (split_c s 44 _ hs hM).mono ?_
 rintro e w1 ⟨A, cp, rfl, hS, hnx1⟩
 have hl9 : (cutB 44 s).length <= 65537 := by rw [cutB_len]; have := cutL_size 44 s.data.toList; rw [<- ba_size] at this; omega
 have HPt := qh (fun k => cutB_part (c := 44) (t := s) k)
 obtain ⟨ws, Hws⟩ := nM (cutB 44 s)
 rw [Hws.out] at hS HO hl9 HPt ⊢
 go_wp2
 go_loopw [4, 17] (fun o i wr => ∃ (k : Nat) (v : Value) (ms : List Mrk), k <= ws.length /\ i = ii k /\ v = o /\ RowM wr w1.heap.size v ms /\ Hid (marksB (ws.take k) = some ms) /\ Nx w1 wr) (fun _ i _ => ws.length - (intOf i).toNat)
 case atStart => exact ⟨0, _, [], Nat.zero_le _, rfl, rfl, RowM.nil _ _, qh rfl, Nx.refl _⟩
 case round =>
  obtain ⟨k, v, ms, hk, rfl, rfl, hw, HM, hnx⟩ := hrel
  by_cases hlt : k < ws.length
  . obtain ⟨b, off, rfl, hb, hc0⟩ := (hS.row.below hnx nle) oM
    have hc := hc0 k hlt
    clear hc0
    unfold wdAt at hc
    have hsz := HPt.out k
    have HNo := qh (fun h => HO.out.trans (marksB_no hlt h))
    have HYes := qh (fun m (h : wordB (ws.getD k ByteArray.empty) = some m) => marksB_succ hlt HM.out h)
    have hml : ms.length = k := by rw [marksB_len HM.out, List.length_take]; omega
    have Hml := qh hml
    obtain ⟨x, Hx⟩ := nM (ws.getD k ByteArray.empty)
    rw [Hx.out] at hc hsz HNo HYes
    clear hml
    go_wp2_with fail
    refine (cut_c x 61 _ oM ((hM.nx hnx1).nx hnx)).mono ?_
    rintro e w2 ⟨he, hnx2⟩
    have hcl := cut_len x.data.toList 61
    obtain ⟨a, Ha⟩ := nM (baL (Lib.cut x.data.toList [61]).1)
    obtain ⟨bb, Hb⟩ := nM (baL (Lib.cut x.data.toList [61]).2.1)
    have hbs : bb.size <= 65536 := by rw [<- Hb.out, baL_size]; have := hcl.2; rw [<- ba_size] at this; omega
    clear hcl
    have hx2 := hnx.trans hnx2
    have hE2 := hE.nx (hnx1.trans hx2)
    have hw2 := hw.nx hnx2
    rw [Ha.out, Hb.out] at he
    cases hf : (Lib.cut x.data.toList [61]).2.2 with
    | false =>
      have HF := qh (HNo.out (by rw [wordB_cut hf Ha.out Hb.out]; rfl))
      rw [hf] at he
      subst he
      clear hf HNo HYes
      obtain ⟨c0, _⟩ := hE2
      go_wp2
      go_quiet (fail)
      go_wp2
      go_ret2
      exact RetMk.no HF.out ((hnx1.trans hx2).drewN _)
    | true =>
      have HWd := qh (wordB_cut hf Ha.out Hb.out)
      rw [hf] at he
      subst he
      clear hf
      go_wp2_with fail
      refine (plainNumberOf_c bb _ a0 a1 hbs hE2).mono ?_
      rintro e w3 ⟨he3, hnx3⟩
      have hx3 := hx2.trans hnx3
      have hw3 := hw2.nx hnx3
      cases hp : plainB bb.data.toList with
      | false =>
        have HF := qh (HNo.out (by rw [HWd.out, hp]; rfl))
        rw [<- plainV_no hp] at he3
        subst he3
        clear hp HNo HYes
        go_wp2
        go_ret2
        exact RetMk.no HF.out (hnx1.trans hx3)
      | true =>
        have HY := qh (HYes.out (a, ((valL bb.data.toList : Nat) : Int)) (by rw [HWd.out, hp]; rfl))
        rw [<- plainV_yes hp] at he3
        subst he3
        clear hp HNo HYes
        obtain ⟨m, Hm⟩ := nM (((valL bb.data.toList : Nat) : Int) : Int)
        rw [Hm.out] at HY ⊢
        have hw4 := hw3.nx ((Nx.refl w3).alloc (.cells #[.string a, ii m] 136))
        have hx4 := hx3.alloc (.cells #[.string a, ii m] 136)
        have HNW := newM w3 a m
        have HOc : Hid (∀ u ∈ [Value.string a, ii m], u.oneCell' = true) := qh (fun u hu => by simp only [List.mem_cons, List.not_mem_nil, or_false] at hu; rcases hu with rfl | rfl <;> rfl)
        unfold RowM at hw4
        go_wp2_with (at_builtin; refine wpList_append_own _ rfl _ _ 24 rfl w1.heap.size 136 i0 _ 2 24 underlying24 hi0 hz0 hz1 hz2 rfl oM v ms.length _ rfl hw4 ⟨w3.heap.size, 0, none⟩ 1 1 [.string a, ii m] rfl rfl HNW.out HOc.out ?c3 ?c4 ?c5 ?_)
        case c3 => unfold maxLen; have := Hml.out; omega
        case c4 => have := Hml.out; omega
        case c5 => have := hx4.size; simp only [World.size_alloc] at this ⊢; omega
        intro v2 w5 hw5 hg5 _
        have hx5 : Nx w1 w5 := Below.grown hx4 hg5 hx4.size (fun k hk => (hw4.lt k hk).1)
        go_wp2
        go_roundw
        case rel =>
         refine ⟨k + 1, v2, ms ++ [(a, m)], oM, by go_num, rfl, ?_, HY, hx5⟩
         unfold RowM; rw [mV_snoc, List.length_append]; exact hw5
        case measure => simp [intOf]; omega
  . obtain rfl : k = ws.length := oM
    have HR := qh (show marksO s.data.toList = some ms by rw [HO.out, <- HM.out, List.take_length])
    obtain ⟨A2, c2, rfl, _, hS2⟩ := hw.slc
    go_wp2
    go_ret2
    exact RetMk.yes HR.out (hS2.low hnx1.size) (hnx1.trans hnx)
def put6 (u : World) (g : Nat) (v0 v1 v2 v3 v4 v5 : Value) : World := (((((u.setCell ⟨g, 0, none⟩ v0).setCell ⟨g, 1, none⟩ v1).setCell ⟨g, 2, none⟩ v2).setCell ⟨g, 3, none⟩ v3).setCell ⟨g, 4, none⟩ v4).setCell ⟨g, 5, none⟩ v5
theorem put6_box {u : World} {g : Nat} {t : TypeId} {a b c d x y : Value} (hb : Box u g t #[a, b, c, d, x, y]) (v0 v1 v2 v3 v4 v5 : Value) : Box (put6 u g v0 v1 v2 v3 v4 v5) g t #[v0, v1, v2, v3, v4, v5] :=
 (((((hb.set 0 v0).set 1 v1).set 2 v2).set 3 v3).set 4 v4).set 5 v5
theorem put6_nx {w u : World} {g : Nat} (hx : Nx w u) (hg : w.heap.size <= g) (v0 v1 v2 v3 v4 v5 : Value) : Nx w (put6 u g v0 v1 v2 v3 v4 v5) :=
 (((((hx.setCell (p := ⟨g, 0, none⟩) hg v0).setCell (p := ⟨g, 1, none⟩) hg v1).setCell (p := ⟨g, 2, none⟩) hg v2).setCell (p := ⟨g, 3, none⟩) hg v3).setCell (p := ⟨g, 4, none⟩) hg v4).setCell (p := ⟨g, 5, none⟩) hg v5
theorem Sl.pt6 {u : World} {lo g : Nat} {A : Option Addr} {t : TypeId} {m : Nat} {f : Nat -> Value} (h : Sl u lo A t m f) (hg : g < lo) (v0 v1 v2 v3 v4 v5 : Value) : Sl (put6 u g v0 v1 v2 v3 v4 v5) lo A t m f :=
 (((((h.far (p := ⟨g, 0, none⟩) hg v0).far (p := ⟨g, 1, none⟩) hg v1).far (p := ⟨g, 2, none⟩) hg v2).far (p := ⟨g, 3, none⟩) hg v3).far (p := ⟨g, 4, none⟩) hg v4).far (p := ⟨g, 5, none⟩) hg v5
theorem Sl.pt6t {u : World} {lo g : Nat} {A : Option Addr} {t t' : TypeId} {m : Nat} {f : Nat -> Value} {a b c d x y : Value} (h : Sl u lo A t m f) (hb : Box u g t' #[a, b, c, d, x, y]) (ht : t' ≠ t) (v0 v1 v2 v3 v4 v5 : Value) : Sl (put6 u g v0 v1 v2 v3 v4 v5) lo A t m f :=
 (((((h.far_ty (p := ⟨g, 0, none⟩) hb ht v0).far_ty (p := ⟨g, 1, none⟩) (hb.set 0 v0) ht v1).far_ty (p := ⟨g, 2, none⟩) ((hb.set 0 v0).set 1 v1) ht v2).far_ty (p := ⟨g, 3, none⟩) (((hb.set 0 v0).set 1 v1).set 2 v2) ht v3).far_ty (p := ⟨g, 4, none⟩) ((((hb.set 0 v0).set 1 v1).set 2 v2).set 3 v3) ht v4).far_ty (p := ⟨g, 5, none⟩) (((((hb.set 0 v0).set 1 v1).set 2 v2).set 3 v3).set 4 v4) ht v5
theorem Box.far6 {u : World} {g g2 : Nat} {t : TypeId} {cs : Array Value} (h : Box u g2 t cs) (hg : g2 ≠ g) (v0 v1 v2 v3 v4 v5 : Value) : Box (put6 u g v0 v1 v2 v3 v4 v5) g2 t cs :=
 (((((h.far (p := ⟨g, 0, none⟩) hg v0).far (p := ⟨g, 1, none⟩) hg v1).far (p := ⟨g, 2, none⟩) hg v2).far (p := ⟨g, 3, none⟩) hg v3).far (p := ⟨g, 4, none⟩) hg v4).far (p := ⟨g, 5, none⟩) hg v5
theorem Box.drew {w : World} {g : Nat} {t : TypeId} {cs : Array Value} (h : Box w g t cs) : Box w.drew g t cs := h
theorem inAt_one (xs : List Int) (k : Nat) : (inAt xs k).oneCell' = true := rfl
def RetIx (w : World) (xs : List Int) (e : Ending) (w' : World) : Prop := ∃ (A : Option Addr) (c : Nat), e = .returned (sC A xs.length c) /\ xs.length <= c /\ SlI w' w.heap.size A xs /\ Nx w w'
theorem copyListI_c (A : Option Addr) (c B : Nat) (xs : List Int) (w : World) (h : Ins w B A xs) (hB : B <= w.heap.size) (hn : xs.length <= 1048576) :
 Calls Tryz.prog 116 #[sC A xs.length c] w (RetIx w xs) := by
 rcases Nat.eq_zero_or_pos xs.length with hz | hp
 . have h0 : ((xs.length : Int) == 0) = true := beq_iff_eq.2 oM
   have HZ := qh hz
   clear hz
   go_enter func116, ntmps116
   go_wp2
   go_ret
   exact ⟨none, 0, by rw [HZ.out]; rfl, by rw [HZ.out]; exact Nat.le_refl _, (fun h => absurd h (by rw [HZ.out]; omega)), Nx.refl _⟩
 have h0 : ((xs.length : Int) == 0) = false := beq_eq_false_iff_ne.2 oM
 obtain ⟨i0, hi0, hz0, hz1, hz2⟩ := info_parts info_int
 have hmk := fun W => run_make_rowN (P := Tryz.prog) 23 3 i0 _ underlying23 hi0 hz0 .i64 .i64 xs.length xs.length nle (by rw [hz2]; omega) oM W
 rw [hz1] at hmk
 have hmade := Own.made w #[Value.int .i64 0] xs.length 3
 have hnx := (Nx.refl w).alloc (.cells (madeCells #[Value.int .i64 0] xs.length) 3)
 obtain ⟨w1, hrun, ho1, hnx1, _, _⟩ := run_copy_new (P := Tryz.prog) (w.alloc (.cells (madeCells #[Value.int .i64 0] xs.length) 3)) 23 23 3 3 i0 1 underlying23 hi0 hz1
  w.heap.size xs.length xs.length A xs.length c B xs.length 3 (inAt xs) _ hmade oM nle (by rw [Nat.mul_one]; exact h.below hnx hB) (inAt_one xs)
 have hx1 := hnx1 w hnx nle
 have HO := qh (ho1.congr (f' := inAt xs) (fun k hk => by rw [if_pos oM]))
 clear ho1 hnx1 hmade
 go_enter func116, ntmps116
 go_wp2
 go_ret
 exact ⟨_, _, rfl, Nat.le_refl _, Sl.own HO.out nle, hx1⟩
def RetSU (w : World) (o : Option U6) (bad good : Value) (e : Ending) (w' : World) : Prop :=
 Nx w w' /\ (o = none -> e = .returned (.tuple #[.agg #[ii 0, ii 0, ii 0, ii 0, nsl, nsl], bad])) /\
 ∀ q : U6, o = some q -> ∃ A c A2 c2, e = .returned (.tuple #[.agg #[ii q.1, ii q.2.1, ii q.2.2.1, ii q.2.2.2.1, sC A q.2.2.2.2.1.length c, sC A2 q.2.2.2.2.2.length c2], good]) /\
   q.2.2.2.2.1.length <= c /\ SlI w' w.heap.size A q.2.2.2.2.1 /\ SlM w' w.heap.size A2 q.2.2.2.2.2
theorem RetSU.no {w w' : World} {o : Option U6} {bad good : Value} (h : o = none) (hn : Nx w w') : RetSU w o bad good (.returned (.tuple #[.agg #[ii 0, ii 0, ii 0, ii 0, nsl, nsl], bad])) w' :=
 ⟨hn, fun _ => rfl, fun q h2 => by rw [h] at h2; cases h2⟩
theorem RetSU.yes {w w' : World} {o : Option U6} {bad good : Value} {g b p t : Int} {xs : List Int} {ms : List Mrk} {c c2 : Nat} {A A2 : Option Addr} (h : o = some (g, b, p, t, xs, ms)) (hc : xs.length <= c) (hs : SlI w' w.heap.size A xs) (hm : SlM w' w.heap.size A2 ms) (hn : Nx w w') :
 RetSU w o bad good (.returned (.tuple #[.agg #[ii g, ii b, ii p, ii t, sC A xs.length c, sC A2 ms.length c2], good])) w' :=
 ⟨hn, (fun h2 => by rw [h] at h2; cases h2), fun q h2 => by rw [h] at h2; injection h2 with h2; subst h2; exact ⟨A, c, A2, c2, rfl, hc, hs, hm⟩⟩
def dropA (A : Option Addr) (c : Nat) : Option Addr := if c = 4 then A else A.map (·.add (4 * 1))
theorem drop_row {W : World} {B b off c : Nat} {ns : List Nat} (h : ∀ i, i < ns.length -> W.cell? ⟨b, off + i, none⟩ = some (intAt ns i)) (hb : b < B) (hl : 4 <= ns.length) (hcp : ns.length <= c) : Ins W B (dropA (some ⟨b, off, none⟩) c) (intsN (ns.drop 4)) := fun hm => by
 have hl2 : (intsN (ns.drop 4)).length = ns.length - 4 := by rw [intsN_len, List.length_drop]
 rw [hl2] at hm
 refine ⟨b, off + 4, ?_, hb, fun i hi => ?_⟩
 . unfold dropA
   rw [if_neg oM]
   simp [Addr.add]
 . rw [hl2] at hi
   rw [show off + 4 + i = off + (4 + i) by omega, h (4 + i) oM, intsN_at _ _ (by rw [List.length_drop]; omega)]
   unfold intAt
   rw [gdE, gdE, List.getElem?_drop]
theorem slice4 {o : Oper} {a : Act} {x : Operand} {A : Option Addr} {n c m : Nat} {W : World} (ho : o.op = .slice 23 x (some (.const (ii 4))) none none) (hx : a.eval x = sC A n c) (hl : 4 <= n) (hm : m = n - 4) :
 (execOp a.eval o).run Tryz.prog W = .ok (.value (sC (dropA A c) m (c - 4))) W := by
 obtain ⟨i0, hi0, hz0, hz1, hz2⟩ := info_parts info_int
 subst hm
 have he : Tryz.prog.elem 23 = 3 := by kernel_rfl
 have h1 := run_slice_l (P := Tryz.prog) (w := W) 23 A n c (by rw [he]; exact underlying23) .i64 4 oM oM
 rw [he] at h1
 have hc : a.eval (.const (ii 4)) = ii 4 := rfl
 unfold execOp
 have h2 := run_sliceAt_slice (P := Tryz.prog) (w := W) 23 (sC A n c) (some (ii 4)) none none (by rw [he]; exact underlying23)
 simp only [ho, hx, hc, Option.map_some, Option.map_none]
 simp [h2, h1, sizeOf, typeInfo, hi0, hz1, sliced, dropA]
theorem marksL_from : ∀ {ws : List (List UInt8)} {ms : List Mrk} {m : Mrk}, marksL ws = some ms -> m ∈ ms -> ∃ w ∈ ws, wordM w = some m
 | [], ms, m, h, hm => by simp only [marksL, Option.some.injEq] at h; subst h; simp at hm
 | x :: ws, ms, m, h, hm => by
   rw [marksL] at h
   cases hx : wordM x with
   | none => rw [hx] at h; cases h
   | some q =>
     rw [hx, Option.bind_some] at h
     cases hw : marksL ws with
     | none => rw [hw] at h; cases h
     | some ns =>
       rw [hw, Option.map_some, Option.some.injEq] at h
       subst h
       rcases List.mem_cons.1 hm with rfl | hm
       . exact ⟨x, by simp, hx⟩
       . obtain ⟨w, hw', e⟩ := marksL_from hw hm
         exact ⟨w, by simp [hw'], e⟩
theorem wordM_size {l : List UInt8} {m : Mrk} (h : wordM l = some m) : m.1.size <= l.length := by
 unfold wordM at h
 split at h
 . injection h with h
   subst h
   show (baL _).size <= _
   rw [baL_size]
   exact (cut_len l 61).1
 . cases h
theorem marksO_fit {l : List UInt8} {ms : List Mrk} (hl : l.length <= 65536) (h : marksO l = some ms) : ms.length <= 1048576 /\ AllM ms := by
 unfold marksO at h
 split at h
 . injection h with h; subst h
   exact ⟨by simp, fun k => by simp [mrZ]⟩
 . refine ⟨?_, fun k => ?_⟩
   . rw [marksL_len h]; have := cutL_size 44 l; omega
   . by_cases hk : k < ms.length
     . rw [gdE, List.getElem?_eq_getElem hk, Option.getD_some]
       obtain ⟨w, hw, e⟩ := marksL_from h (List.getElem_mem hk)
       have h1 := wordM_size e
       have h2 := cutL_part hw
       omega
     . rw [gdE, List.getElem?_eq_none oM]; simp [mrZ]
theorem numsO_fit {l : List UInt8} {ns : List Nat} (h : numsO l = some ns) : ns.length <= l.length := by
 unfold numsO at h
 split at h
 . injection h with h; subst h; rw [numsOf_len]; omega
 . cases h
theorem superOfText_c (t : BA) (w : World) (a0 a1 : Addr) (ht : t.size <= 65536) (hE : Er w a0 a1) (hM : Mx w) : Calls Tryz.prog 48 #[.string t] w (RetSU w (rdU t) (.iface 290 (.pointer (some a0))) .nilIface) := by
 have e0 := hE.1
 have hg0 : 0 < w.heap.size := World.block_lt_of_cell? w _ e0
 have b0 := Box.new w 26 #[ii 0, ii 0, ii 0, ii 0, nsl, nsl]
 have hx0 := (Nx.refl w).alloc (.cells #[ii 0, ii 0, ii 0, ii 0, nsl, nsl] 26)
 go_enter func48, ntmps48
 go_wp2_with fail
 generalize w.alloc (.cells #[ii 0, ii 0, ii 0, ii 0, nsl, nsl] 26) = W at *
 refine (unsealed_c t _ a0 a1 ht (hE.nx hx0)).mono ?_
 rintro e w1 ⟨hnx1, h1, h2⟩
 have b1 := b0.nx hnx1
 have hx1 := hx0.trans hnx1
 clear b0 hx0 hnx1
 cases ho : opensB t with
 | false =>
   obtain rfl := h1 ho
   have HF := qh (rdU_shut ho)
   clear h1 h2 ho
   obtain ⟨u0, u1, u2, u3, u4, u5⟩ := b1.d6
   have f0 := b1.frozen 0
   have f1 := b1.frozen 1
   have f2 := b1.frozen 2
   have f3 := b1.frozen 3
   have f4 := b1.frozen 4
   have f5 := b1.frozen 5
   go_wp2
   have q := (put6_box b1 (ii 0) (ii 0) (ii 0) (ii 0) (nsl) (nsl))
   have hnf := (put6_nx hx1 (Nat.le_refl w.heap.size) (ii 0) (ii 0) (ii 0) (ii 0) (nsl) (nsl))
   change bodyPost _ _ _ _ _ (put6 w1 w.heap.size (ii 0) (ii 0) (ii 0) (ii 0) (nsl) (nsl))
   change Box (put6 w1 w.heap.size (ii 0) (ii 0) (ii 0) (ii 0) (nsl) (nsl)) _ _ _ at q
   generalize put6 w1 w.heap.size (ii 0) (ii 0) (ii 0) (ii 0) (nsl) (nsl) = Wf at *
   obtain ⟨g0, g1, g2, g3, g4, g5⟩ := q.d6
   exact bodyPost_ret (v := .tuple #[.agg #[ii 0, ii 0, ii 0, ii 0, nsl, nsl], .iface 290 (.pointer (some a0))]) (by simp [results, results48, go_sem, g0, g1, g2, g3, g4, g5]) rfl (RetSU.no HF.out hnf)
 | true =>
   obtain rfl := h2 ho
   clear h1 h2
   have hbs := bodyOf_size t
   go_wp2_with fail
   refine (cut_c (bodyOf t) 124 _ oM (hM.nx hx1)).mono ?_
   rintro e w2 ⟨he, hnx2⟩
   have b2 := b1.nx hnx2
   have hx2 := hx1.trans hnx2
   clear b1 hx1 hnx2
   rcases part_at 124 (bodyOf t).data.toList with hm | ⟨la, lb, hna, hab⟩
   . rw [cut_miss hm] at he
     have HF := qh (rdU_miss hm)
     clear hm ho hbs
     simp only at he
     generalize baL (bodyOf t).data.toList = z1 at he
     generalize baL [] = z2 at he
     subst he
     obtain ⟨u0, u1, u2, u3, u4, u5⟩ := b2.d6
     have f0 := b2.frozen 0
     have f1 := b2.frozen 1
     have f2 := b2.frozen 2
     have f3 := b2.frozen 3
     have f4 := b2.frozen 4
     have f5 := b2.frozen 5
     have hlt9 := b2.lt
     go_wp2_with fail
     refine wp_lexA (kf2 (true :: ff :: [])) (fun w' => CC w' 0 0 (.iface 290 (.pointer (some a0)))) (by exact ((hx2.drew).cell (p := ⟨0, 0, none⟩) hg0).trans e0) ?_
     refine hLr ?_
     refine hLc fun K hK => ?_
     go_simp
     refine hK.out _ _ (by exact ((put6_nx hx2 (Nat.le_refl w.heap.size) (ii 0) (ii 0) (ii 0) (ii 0) (nsl) (nsl)).drew.cell (p := ⟨0, 0, none⟩) hg0).trans e0) ?_
     clear hK K
     refine nZ ?_
     refine hLr ?_
     refine HL.done ?_
     clear u0 u1 u2 u3 u4 u5 f0 f1 f2 f3 f4 f5
     go_wp2
     have q := (put6_box b2 (ii 0) (ii 0) (ii 0) (ii 0) (nsl) (nsl)).drew
     have hnf := (put6_nx hx2 (Nat.le_refl w.heap.size) (ii 0) (ii 0) (ii 0) (ii 0) (nsl) (nsl)).drew
     change bodyPost _ _ _ _ _ (World.drew (put6 w2 w.heap.size (ii 0) (ii 0) (ii 0) (ii 0) (nsl) (nsl)))
     change Box (World.drew (put6 w2 w.heap.size (ii 0) (ii 0) (ii 0) (ii 0) (nsl) (nsl))) _ _ _ at q
     generalize World.drew (put6 w2 w.heap.size (ii 0) (ii 0) (ii 0) (ii 0) (nsl) (nsl)) = Wf at *
     obtain ⟨g0, g1, g2, g3, g4, g5⟩ := q.d6
     exact bodyPost_ret (v := .tuple #[.agg #[ii 0, ii 0, ii 0, ii 0, nsl, nsl], .iface 290 (.pointer (some a0))]) (by simp [results, results48, go_sem, g0, g1, g2, g3, g4, g5]) rfl (RetSU.no HF.out hnf)
   . rw [hab, cut_hit hna] at he
     have HPu := qh (rdU_hit ho hna hab)
     have hla : (baL la).size <= 65536 := by rw [baL_size]; have := congrArg List.length hab; rw [<- ba_size] at this; simp only [List.length_append, List.length_cons] at this; omega
     have hlb : (baL lb).size <= 65536 := by rw [baL_size]; have := congrArg List.length hab; rw [<- ba_size] at this; simp only [List.length_append, List.length_cons] at this; omega
     have HLb : Hid (lb.length <= 65536) := qh (by rw [<- baL_size]; exact hlb)
     have HLa : Hid (la.length <= 65536) := qh (by rw [<- baL_size]; exact hla)
     clear hab hna ho hbs
     subst he
     obtain ⟨sa, Hsa⟩ := nM (baL la)
     obtain ⟨sb, Hsb⟩ := nM (baL lb)
     have Hda := qh (show sa.data.toList = la by rw [<- Hsa.out]; rfl)
     have Hdb := qh (show sb.data.toList = lb by rw [<- Hsb.out]; rfl)
     rw [Hsa.out] at hla
     rw [Hsb.out] at hlb
     rw [Hsa.out, Hsb.out]
     go_wp2_with fail
     refine (numbersOf_c sa _ a0 a1 hla (hE.nx hx2)).mono ?_
     rintro e w3 ⟨hnx3, h1, h2⟩
     rw [Hda.out] at h1 h2
     have b3 := b2.nx hnx3
     have hx3 := hx2.trans hnx3
     clear b2 hx2 hnx3
     cases hn : numsO la with
     | none =>
       obtain rfl := h1 hn
       have HF := qh (HPu.out.trans (partU_nums hn))
       clear h1 h2 hn
       obtain ⟨u0, u1, u2, u3, u4, u5⟩ := b3.d6
       have f0 := b3.frozen 0
       have f1 := b3.frozen 1
       have f2 := b3.frozen 2
       have f3 := b3.frozen 3
       have f4 := b3.frozen 4
       have f5 := b3.frozen 5
       go_wp2
       have q := (put6_box b3 (ii 0) (ii 0) (ii 0) (ii 0) (nsl) (nsl))
       have hnf := (put6_nx hx3 (Nat.le_refl w.heap.size) (ii 0) (ii 0) (ii 0) (ii 0) (nsl) (nsl))
       change bodyPost _ _ _ _ _ (put6 w3 w.heap.size (ii 0) (ii 0) (ii 0) (ii 0) (nsl) (nsl))
       change Box (put6 w3 w.heap.size (ii 0) (ii 0) (ii 0) (ii 0) (nsl) (nsl)) _ _ _ at q
       generalize put6 w3 w.heap.size (ii 0) (ii 0) (ii 0) (ii 0) (nsl) (nsl) = Wf at *
       obtain ⟨g0, g1, g2, g3, g4, g5⟩ := q.d6
       exact bodyPost_ret (v := .tuple #[.agg #[ii 0, ii 0, ii 0, ii 0, nsl, nsl], .iface 290 (.pointer (some a0))]) (by simp [results, results48, go_sem, g0, g1, g2, g3, g4, g5]) rfl (RetSU.no HF.out hnf)
     | some ns =>
       obtain ⟨A, c, rfl, hrow, hcp⟩ := h2 ns hn
       clear h1 h2
       by_cases hl4 : 4 <= ns.length
       case neg =>
        have HF := qh (HPu.out.trans (partU_few hn oM))
        have hd4 : decide ((ns.length : Int) < 4) = true := by simp; omega
        clear hn hcp hl4
        obtain ⟨u0, u1, u2, u3, u4, u5⟩ := b3.d6
        have f0 := b3.frozen 0
        have f1 := b3.frozen 1
        have f2 := b3.frozen 2
        have f3 := b3.frozen 3
        have f4 := b3.frozen 4
        have f5 := b3.frozen 5
        have hlt9 := b3.lt
        go_wp2_with fail
        refine wp_lexA (kf2 (true :: ff :: [])) (fun w' => CC w' 0 0 (.iface 290 (.pointer (some a0)))) (by exact ((hx3.drew).cell (p := ⟨0, 0, none⟩) hg0).trans e0) ?_
        refine hLr ?_
        refine hLc fun K hK => ?_
        go_simp
        refine hK.out _ _ (by exact ((put6_nx hx3 (Nat.le_refl w.heap.size) (ii 0) (ii 0) (ii 0) (ii 0) (nsl) (nsl)).drew.cell (p := ⟨0, 0, none⟩) hg0).trans e0) ?_
        clear hK K
        refine nZ ?_
        refine hLr ?_
        refine HL.done ?_
        clear u0 u1 u2 u3 u4 u5 f0 f1 f2 f3 f4 f5
        go_wp2
        have q := (put6_box b3 (ii 0) (ii 0) (ii 0) (ii 0) (nsl) (nsl)).drew
        have hnf := (put6_nx hx3 (Nat.le_refl w.heap.size) (ii 0) (ii 0) (ii 0) (ii 0) (nsl) (nsl)).drew
        change bodyPost _ _ _ _ _ (World.drew (put6 w3 w.heap.size (ii 0) (ii 0) (ii 0) (ii 0) (nsl) (nsl)))
        change Box (World.drew (put6 w3 w.heap.size (ii 0) (ii 0) (ii 0) (ii 0) (nsl) (nsl))) _ _ _ at q
        generalize World.drew (put6 w3 w.heap.size (ii 0) (ii 0) (ii 0) (ii 0) (nsl) (nsl)) = Wf at *
        obtain ⟨g0, g1, g2, g3, g4, g5⟩ := q.d6
        exact bodyPost_ret (v := .tuple #[.agg #[ii 0, ii 0, ii 0, ii 0, nsl, nsl], .iface 290 (.pointer (some a0))]) (by simp [results, results48, go_sem, g0, g1, g2, g3, g4, g5]) rfl (RetSU.no HF.out hnf)
       have hd4 : decide ((ns.length : Int) < 4) = false := by simp; omega
       have HNs := qh hn
       have hnl : ns.length <= 65536 := by have := numsO_fit hn; have := HLa.out; omega
       clear hn
       go_wp2_with fail
       refine (marksOf_c sb _ a0 a1 hlb (hE.nx hx3) (hM.nx hx3)).mono ?_
       rintro e w4 ⟨hnx4, h1, h2⟩
       rw [Hdb.out] at h1 h2
       have b4 := b3.nx hnx4
       have hx4 := hx3.trans hnx4
       have hrow4 := hrow.below hnx4 nle
       have hsz4 := hnx4.size
       have hsz3 := hx3.size
       have hlt3 := b3.lt
       clear b3 hx3 hrow
       cases hmk : marksO lb with
       | none =>
         obtain rfl := h1 hmk
         have HF := qh (HPu.out.trans (partU_marks HNs.out hmk))
         clear h1 h2 hmk
         obtain ⟨u0, u1, u2, u3, u4, u5⟩ := b4.d6
         have f0 := b4.frozen 0
         have f1 := b4.frozen 1
         have f2 := b4.frozen 2
         have f3 := b4.frozen 3
         have f4 := b4.frozen 4
         have f5 := b4.frozen 5
         go_wp2
         have q := (put6_box b4 (ii 0) (ii 0) (ii 0) (ii 0) (nsl) (nsl))
         have hnf := (put6_nx hx4 (Nat.le_refl w.heap.size) (ii 0) (ii 0) (ii 0) (ii 0) (nsl) (nsl))
         change bodyPost _ _ _ _ _ (put6 w4 w.heap.size (ii 0) (ii 0) (ii 0) (ii 0) (nsl) (nsl))
         change Box (put6 w4 w.heap.size (ii 0) (ii 0) (ii 0) (ii 0) (nsl) (nsl)) _ _ _ at q
         generalize put6 w4 w.heap.size (ii 0) (ii 0) (ii 0) (ii 0) (nsl) (nsl) = Wf at *
         obtain ⟨g0, g1, g2, g3, g4, g5⟩ := q.d6
         exact bodyPost_ret (v := .tuple #[.agg #[ii 0, ii 0, ii 0, ii 0, nsl, nsl], .iface 290 (.pointer (some a0))]) (by simp [results, results48, go_sem, g0, g1, g2, g3, g4, g5]) rfl (RetSU.no HF.out hnf)
       | some ms =>
       obtain ⟨A3, c3, rfl, hM4'⟩ := h2 ms hmk
       have hM4 := hM4'
       have hfit := marksO_fit HLb.out hmk
       have hml := hfit.1
       have HAm := qh hfit.2
       have HU := qh (HPu.out.trans (partU_yes HNs.out hl4 hmk))
       clear h1 h2 hmk hfit hnx4 hM4'
       obtain ⟨b, off, rfl, hb3, hcl⟩ := hrow4 oM
       have hb : b < w4.heap.size := oM
       have HRow := qh (fun W (hW : Nx w4 W) => drop_row (W := W) (B := w4.heap.size) (c := c) (fun i hi => (hW.cell (p := ⟨b, off + i, none⟩) hb).trans (hcl i hi)) hb hl4 hcp)
       obtain ⟨n0, Hn0⟩ := nM (ns.getD 0 0)
       obtain ⟨n1, Hn1⟩ := nM (ns.getD 1 0)
       obtain ⟨n2, Hn2⟩ := nM (ns.getD 2 0)
       obtain ⟨n3, Hn3⟩ := nM (ns.getD 3 0)
       have k0 : w4.cell? ⟨b, off, none⟩ = some (ii n0) := by have := hcl 0 oM; unfold intAt at this; rw [Hn0.out] at this; exact this
       have k1 : w4.cell? ⟨b, off + 1, none⟩ = some (ii n1) := by have := hcl 1 oM; unfold intAt at this; rw [Hn1.out] at this; exact this
       have k2 : w4.cell? ⟨b, off + 2, none⟩ = some (ii n2) := by have := hcl 2 oM; unfold intAt at this; rw [Hn2.out] at this; exact this
       have k3 : w4.cell? ⟨b, off + 3, none⟩ = some (ii n3) := by have := hcl 3 oM; unfold intAt at this; rw [Hn3.out] at this; exact this
       obtain ⟨xs, Hxs⟩ := nM (intsN (ns.drop 4))
       have HLen : Hid (xs.length = ns.length - 4) := qh (by rw [<- Hxs.out, intsN_len, List.length_drop])
       rw [Hxs.out] at HRow
       have HUx := qh Hxs.out
       have hi0' : (0 : Int) < (ns.length : Int) := oM
       have hi1' : (1 : Int) < (ns.length : Int) := oM
       have hi2' : (2 : Int) < (ns.length : Int) := oM
       have hi3' : (3 : Int) < (ns.length : Int) := oM
       have hm0 : 0 < ns.length := oM
       have hm1 : 1 < ns.length := oM
       have hm2 : 2 < ns.length := oM
       have hm3 : 3 < ns.length := oM
       clear hcl hrow4
       go_wp2_with fail
       refine wp_planA (.t 0 (.t 1 (.t 2 (.t 3 (.t 4 (.t 5 (.t 6 (.t 7 (.t 8 (.t 9 (.t 10 (.t 11 (.t 12 (.t 13 (.t 15 (.b 14 (.t 16 (.c 17 (.c 18 .e))) 17 (.c 14 (.t 16 (.c 18 .e))))))))))))))))))) (fun w' => CC w' b off (ii n0) /\ CC w' b (off + 1) (ii n1) /\ CC w' b (off + 2) (ii n2) /\ CC w' b (off + 3) (ii n3)) (by exact ⟨((Nx.refl w4).drew.cell (p := ⟨b, off, none⟩) hb).trans k0, ((Nx.refl w4).drew.cell (p := ⟨b, off + 1, none⟩) hb).trans k1, ((Nx.refl w4).drew.cell (p := ⟨b, off + 2, none⟩) hb).trans k2, ((Nx.refl w4).drew.cell (p := ⟨b, off + 3, none⟩) hb).trans k3⟩) ?_
       simp only [psOf, List.getD_cons_zero, List.getD_cons_succ]
       iterate 13 (refine HP.tk ?_; (try simp only [Act.put, qqA, qqB, qqC]))
       refine HP.take (v := sC (dropA (some ⟨b, off, none⟩) c) xs.length (c - 4)) (by rfl) (fun W _ => slice4 rfl rfl hl4 HLen.out) ?_
       refine nZ ?_
       iterate 1 (refine HP.tk ?_; (try simp only [Act.put, qqA, qqB, qqC]))
       refine HP.both ?_ ?_
       . refine cSt fun K hK => ?_
         go_simp
         refine (copyListI_c (dropA (some ⟨b, off, none⟩) c) (c - 4) _ xs _ (HRow.out _ (Nx.refl w4).drew) (Nx.refl w4).drew.size (by have := HLen.out; omega)).mono ?_
         rintro e w5 ⟨A5, c5, rfl, hc5, hS5, hnx5⟩
         go_wp2_with fail
         refine hK.out _ _ (by exact ⟨(((Nx.refl w4).drew.trans hnx5).cell (p := ⟨b, off, none⟩) hb).trans k0, (((Nx.refl w4).drew.trans hnx5).cell (p := ⟨b, off + 1, none⟩) hb).trans k1, (((Nx.refl w4).drew.trans hnx5).cell (p := ⟨b, off + 2, none⟩) hb).trans k2, (((Nx.refl w4).drew.trans hnx5).cell (p := ⟨b, off + 3, none⟩) hb).trans k3⟩) ?_
         clear hK K
         refine nZ ?_
         refine hPr ?_
         refine hPc fun K hK => ?_
         go_simp
         refine hK.out _ _ (by exact ⟨((((Nx.refl w4).drew.trans hnx5).alloc (.cells #[ii 0, ii 0, ii 0, ii 0, nsl, nsl] 26)).cell (p := ⟨b, off, none⟩) hb).trans k0, ((((Nx.refl w4).drew.trans hnx5).alloc (.cells #[ii 0, ii 0, ii 0, ii 0, nsl, nsl] 26)).cell (p := ⟨b, off + 1, none⟩) hb).trans k1, ((((Nx.refl w4).drew.trans hnx5).alloc (.cells #[ii 0, ii 0, ii 0, ii 0, nsl, nsl] 26)).cell (p := ⟨b, off + 2, none⟩) hb).trans k2, ((((Nx.refl w4).drew.trans hnx5).alloc (.cells #[ii 0, ii 0, ii 0, ii 0, nsl, nsl] 26)).cell (p := ⟨b, off + 3, none⟩) hb).trans k3⟩) ?_
         clear hK K
         refine nZ ?_
         refine hPc fun K hK => ?_
         go_simp
         refine hK.out _ _ (by exact ⟨((((Nx.refl w4).drew.trans hnx5).alloc (.cells #[ii n0, ii n1, ii n2, ii n3, sC A5 xs.length c5, sC A3 ms.length c3] 26)).cell (p := ⟨b, off, none⟩) hb).trans k0, ((((Nx.refl w4).drew.trans hnx5).alloc (.cells #[ii n0, ii n1, ii n2, ii n3, sC A5 xs.length c5, sC A3 ms.length c3] 26)).cell (p := ⟨b, off + 1, none⟩) hb).trans k1, ((((Nx.refl w4).drew.trans hnx5).alloc (.cells #[ii n0, ii n1, ii n2, ii n3, sC A5 xs.length c5, sC A3 ms.length c3] 26)).cell (p := ⟨b, off + 2, none⟩) hb).trans k2, ((((Nx.refl w4).drew.trans hnx5).alloc (.cells #[ii n0, ii n1, ii n2, ii n3, sC A5 xs.length c5, sC A3 ms.length c3] 26)).cell (p := ⟨b, off + 3, none⟩) hb).trans k3⟩) ?_
         clear hK K
         refine nZ ?_
         refine HP.done ?_
         have bs := Box.new w5 26 #[ii n0, ii n1, ii n2, ii n3, sC A5 xs.length c5, sC A3 ms.length c3]
         have hx6 := (((Nx.refl w4).drew.trans hnx5).alloc (.cells #[ii n0, ii n1, ii n2, ii n3, sC A5 xs.length c5, sC A3 ms.length c3] 26))
         have hS5b : SlI w5 w4.heap.size A5 xs := hS5
         have hS6 := hS5b.nx ((Nx.refl w5).alloc (.cells #[ii n0, ii n1, ii n2, ii n3, sC A5 xs.length c5, sC A3 ms.length c3] 26))
         have hM6 := ((hM4.nx (Nx.refl w4).drew).nx hnx5).nx ((Nx.refl w5).alloc (.cells #[ii n0, ii n1, ii n2, ii n3, sC A5 xs.length c5, sC A3 ms.length c3] 26))
         change Exit.then _ _ _ _ (w5.alloc (.cells #[ii n0, ii n1, ii n2, ii n3, sC A5 xs.length c5, sC A3 ms.length c3] 26))
         generalize w5.alloc (.cells #[ii n0, ii n1, ii n2, ii n3, sC A5 xs.length c5, sC A3 ms.length c3] 26) = w6 at *
         generalize w5.heap.size = gS at *
         have b6 := b4.nx hx6
         have hxw6 := hx4.trans hx6
         have hgl5 : w.heap.size < w4.heap.size := b4.lt
         obtain ⟨y0, y1, y2, y3, y4, y5⟩ := bs.d6
         go_wp2_with fail
         refine (superRight_c n0 n1 n2 n3 A5 A3 c5 c3 _ xs ms _ hS6.row hM6.row nle (by have := HLen.out; omega) hml hc5 HAm.out).mono ?_
         rintro e w7 ⟨rfl, hnx7⟩
         have b7 := b6.nx hnx7
         have bs7 := bs.nx hnx7
         have hx7 := hxw6.trans hnx7
         have hS7 := hS6.nx hnx7
         have hM7 := hM6.nx hnx7
         clear y0 y1 y2 y3 y4 y5
         obtain ⟨y0, y1, y2, y3, y4, y5⟩ := bs7.d6
         cases hf : superB n0 n1 n2 n3 xs ms with
         | false =>
           have HF := qh (HU.out.trans (supOf_no (by rw [Hn0.out, Hn1.out, Hn2.out, Hn3.out, Hxs.out]; exact hf)))
           clear hf
           obtain ⟨u0, u1, u2, u3, u4, u5⟩ := b7.d6
           have f0 := b7.frozen 0
           have f1 := b7.frozen 1
           have f2 := b7.frozen 2
           have f3 := b7.frozen 3
           have f4 := b7.frozen 4
           have f5 := b7.frozen 5
           have hlt9 := b7.lt
           go_wp2_with fail
           refine wp_lexA (kf2 (true :: ff :: [])) (fun w' => CC w' 0 0 (.iface 290 (.pointer (some a0)))) (by exact ((hx7.drew).cell (p := ⟨0, 0, none⟩) hg0).trans e0) ?_
           refine hLr ?_
           refine hLc fun K hK => ?_
           go_simp
           refine hK.out _ _ (by exact ((put6_nx hx7 (Nat.le_refl w.heap.size) (ii 0) (ii 0) (ii 0) (ii 0) (nsl) (nsl)).drew.cell (p := ⟨0, 0, none⟩) hg0).trans e0) ?_
           clear hK K
           refine nZ ?_
           refine hLr ?_
           refine HL.done ?_
           clear u0 u1 u2 u3 u4 u5 f0 f1 f2 f3 f4 f5
           go_wp2
           have q := (put6_box b7 (ii 0) (ii 0) (ii 0) (ii 0) (nsl) (nsl)).drew
           have hnf := (put6_nx hx7 (Nat.le_refl w.heap.size) (ii 0) (ii 0) (ii 0) (ii 0) (nsl) (nsl)).drew
           change bodyPost _ _ _ _ _ (World.drew (put6 w7 w.heap.size (ii 0) (ii 0) (ii 0) (ii 0) (nsl) (nsl)))
           change Box (World.drew (put6 w7 w.heap.size (ii 0) (ii 0) (ii 0) (ii 0) (nsl) (nsl))) _ _ _ at q
           generalize World.drew (put6 w7 w.heap.size (ii 0) (ii 0) (ii 0) (ii 0) (nsl) (nsl)) = Wf at *
           obtain ⟨g0, g1, g2, g3, g4, g5⟩ := q.d6
           exact bodyPost_ret (v := .tuple #[.agg #[ii 0, ii 0, ii 0, ii 0, nsl, nsl], .iface 290 (.pointer (some a0))]) (by simp [results, results48, go_sem, g0, g1, g2, g3, g4, g5]) rfl (RetSU.no HF.out hnf)
         | true =>
           have HF := qh (HU.out.trans (supOf_yes (by rw [Hn0.out, Hn1.out, Hn2.out, Hn3.out, Hxs.out]; exact hf)))
           rw [Hn0.out, Hn1.out, Hn2.out, Hn3.out, Hxs.out] at HF
           clear hf
           have hgl : w.heap.size < w4.heap.size := b4.lt
           obtain ⟨u0, u1, u2, u3, u4, u5⟩ := b7.d6
           have f0 := b7.frozen 0
           have f1 := b7.frozen 1
           have f2 := b7.frozen 2
           have f3 := b7.frozen 3
           have f4 := b7.frozen 4
           have f5 := b7.frozen 5
           go_wp2
           have q := (put6_box b7 (ii n0) (ii n1) (ii n2) (ii n3) (sC A5 xs.length c5) (sC A3 ms.length c3))
           have hnf := (put6_nx hx7 (Nat.le_refl w.heap.size) (ii n0) (ii n1) (ii n2) (ii n3) (sC A5 xs.length c5) (sC A3 ms.length c3))
           have hsf := (hS7.pt6 hgl (ii n0) (ii n1) (ii n2) (ii n3) (sC A5 xs.length c5) (sC A3 ms.length c3))
           change Sl (put6 w7 w.heap.size (ii n0) (ii n1) (ii n2) (ii n3) (sC A5 xs.length c5) (sC A3 ms.length c3)) _ _ _ _ _ at hsf
           have hmf := (hM7.pt6 hlt3 (ii n0) (ii n1) (ii n2) (ii n3) (sC A5 xs.length c5) (sC A3 ms.length c3))
           change Sl (put6 w7 w.heap.size (ii n0) (ii n1) (ii n2) (ii n3) (sC A5 xs.length c5) (sC A3 ms.length c3)) _ _ _ _ _ at hmf
           change bodyPost _ _ _ _ _ (put6 w7 w.heap.size (ii n0) (ii n1) (ii n2) (ii n3) (sC A5 xs.length c5) (sC A3 ms.length c3))
           change Box (put6 w7 w.heap.size (ii n0) (ii n1) (ii n2) (ii n3) (sC A5 xs.length c5) (sC A3 ms.length c3)) _ _ _ at q
           generalize put6 w7 w.heap.size (ii n0) (ii n1) (ii n2) (ii n3) (sC A5 xs.length c5) (sC A3 ms.length c3) = Wf at *
           obtain ⟨g0, g1, g2, g3, g4, g5⟩ := q.d6
           exact bodyPost_ret (v := .tuple #[.agg #[ii n0, ii n1, ii n2, ii n3, sC A5 xs.length c5, sC A3 ms.length c3], .nilIface]) (by simp [results, results48, go_sem, g0, g1, g2, g3, g4, g5]) rfl (RetSU.yes HF.out hc5 (hsf.low oM) (hmf.low oM) hnf)
       . have bz : Box (w4.drew.alloc (.cells #[ii 0, ii 0, ii 0, ii 0, nsl, nsl] 26)) w4.heap.size 26 #[ii 0, ii 0, ii 0, ii 0, nsl, nsl] := Box.new w4.drew 26 #[ii 0, ii 0, ii 0, ii 0, nsl, nsl]
         have hz := (Nx.refl w4).drew.alloc (.cells #[ii 0, ii 0, ii 0, ii 0, nsl, nsl] 26)
         have HM5 := qh ((hM4.nx (Nx.refl w4).drew).nx ((Nx.refl w4.drew).alloc (.cells #[ii 0, ii 0, ii 0, ii 0, nsl, nsl] 26)))
         have zlt := bz.lt
         refine cSt fun K hK => ?_
         go_simp
         refine hK.out _ _ (by exact ⟨(hz.cell (p := ⟨b, off, none⟩) hb).trans k0, (hz.cell (p := ⟨b, off + 1, none⟩) hb).trans k1, (hz.cell (p := ⟨b, off + 2, none⟩) hb).trans k2, (hz.cell (p := ⟨b, off + 3, none⟩) hb).trans k3⟩) ?_
         clear hK K
         refine nZ ?_
         change HP _ _ _ _ _ _ (w4.drew.alloc (.cells #[ii 0, ii 0, ii 0, ii 0, nsl, nsl] 26))
         generalize (w4.drew.alloc (.cells #[ii 0, ii 0, ii 0, ii 0, nsl, nsl] 26)) = wz at *
         refine hPc fun K hK => ?_
         go_simp
         refine (copyListI_c (dropA (some ⟨b, off, none⟩) c) (c - 4) _ xs _ (HRow.out _ hz) hz.size (by have := HLen.out; omega)).mono ?_
         rintro e w5 ⟨A5, c5, rfl, hc5, hS5, hnx5⟩
         go_wp2_with fail
         refine hK.out _ _ (by exact ⟨((hz.trans hnx5).cell (p := ⟨b, off, none⟩) hb).trans k0, ((hz.trans hnx5).cell (p := ⟨b, off + 1, none⟩) hb).trans k1, ((hz.trans hnx5).cell (p := ⟨b, off + 2, none⟩) hb).trans k2, ((hz.trans hnx5).cell (p := ⟨b, off + 3, none⟩) hb).trans k3⟩) ?_
         clear hK K
         refine nZ ?_
         refine hPr ?_
         have b5 := bz.nx hnx5
         have hx5 := hz.trans hnx5
         obtain ⟨r0, r1, r2, r3, r4, r5⟩ := b5.d6
         have rf0 := b5.frozen 0
         have rf1 := b5.frozen 1
         have rf2 := b5.frozen 2
         have rf3 := b5.frozen 3
         have rf4 := b5.frozen 4
         have rf5 := b5.frozen 5
         have rlt := b5.lt
         refine hPc fun K hK => ?_
         go_simp
         refine hK.out _ _ (by exact ⟨((put6_nx hx5 (Nat.le_refl w4.heap.size) (ii n0) (ii n1) (ii n2) (ii n3) (sC A5 xs.length c5) (sC A3 ms.length c3)).cell (p := ⟨b, off, none⟩) hb).trans k0, ((put6_nx hx5 (Nat.le_refl w4.heap.size) (ii n0) (ii n1) (ii n2) (ii n3) (sC A5 xs.length c5) (sC A3 ms.length c3)).cell (p := ⟨b, off + 1, none⟩) hb).trans k1, ((put6_nx hx5 (Nat.le_refl w4.heap.size) (ii n0) (ii n1) (ii n2) (ii n3) (sC A5 xs.length c5) (sC A3 ms.length c3)).cell (p := ⟨b, off + 2, none⟩) hb).trans k2, ((put6_nx hx5 (Nat.le_refl w4.heap.size) (ii n0) (ii n1) (ii n2) (ii n3) (sC A5 xs.length c5) (sC A3 ms.length c3)).cell (p := ⟨b, off + 3, none⟩) hb).trans k3⟩) ?_
         clear hK K
         refine nZ ?_
         refine HP.done ?_
         clear r0 r1 r2 r3 r4 r5 rf0 rf1 rf2 rf3 rf4 rf5
         have bs := put6_box b5 (ii n0) (ii n1) (ii n2) (ii n3) (sC A5 xs.length c5) (sC A3 ms.length c3)
         have hx6 := put6_nx hx5 (Nat.le_refl w4.heap.size) (ii n0) (ii n1) (ii n2) (ii n3) (sC A5 xs.length c5) (sC A3 ms.length c3)
         have hS6 := (hS5.pt6 zlt (ii n0) (ii n1) (ii n2) (ii n3) (sC A5 xs.length c5) (sC A3 ms.length c3)).low (lo' := w4.heap.size) hz.size
         have hM6 := (HM5.out.nx hnx5).pt6t b5 dC (ii n0) (ii n1) (ii n2) (ii n3) (sC A5 xs.length c5) (sC A3 ms.length c3)
         change Exit.then _ _ _ _ (put6 w5 w4.heap.size (ii n0) (ii n1) (ii n2) (ii n3) (sC A5 xs.length c5) (sC A3 ms.length c3))
         generalize (put6 w5 w4.heap.size (ii n0) (ii n1) (ii n2) (ii n3) (sC A5 xs.length c5) (sC A3 ms.length c3)) = w6 at *
         obtain ⟨gS, hgS⟩ : ∃ g, w4.heap.size = g := ⟨_, rfl⟩
         rw [hgS] at bs ⊢
         have b6 := b4.nx hx6
         have hxw6 := hx4.trans hx6
         have hgl5 : w.heap.size < w4.heap.size := b4.lt
         obtain ⟨y0, y1, y2, y3, y4, y5⟩ := bs.d6
         go_wp2_with fail
         refine (superRight_c n0 n1 n2 n3 A5 A3 c5 c3 _ xs ms _ hS6.row hM6.row nle (by have := HLen.out; omega) hml hc5 HAm.out).mono ?_
         rintro e w7 ⟨rfl, hnx7⟩
         have b7 := b6.nx hnx7
         have bs7 := bs.nx hnx7
         have hx7 := hxw6.trans hnx7
         have hS7 := hS6.nx hnx7
         have hM7 := hM6.nx hnx7
         clear y0 y1 y2 y3 y4 y5
         obtain ⟨y0, y1, y2, y3, y4, y5⟩ := bs7.d6
         cases hf : superB n0 n1 n2 n3 xs ms with
         | false =>
           have HF := qh (HU.out.trans (supOf_no (by rw [Hn0.out, Hn1.out, Hn2.out, Hn3.out, Hxs.out]; exact hf)))
           clear hf
           obtain ⟨u0, u1, u2, u3, u4, u5⟩ := b7.d6
           have f0 := b7.frozen 0
           have f1 := b7.frozen 1
           have f2 := b7.frozen 2
           have f3 := b7.frozen 3
           have f4 := b7.frozen 4
           have f5 := b7.frozen 5
           have hlt9 := b7.lt
           go_wp2_with fail
           refine wp_lexA (kf2 (true :: ff :: [])) (fun w' => CC w' 0 0 (.iface 290 (.pointer (some a0)))) (by exact ((hx7.drew).cell (p := ⟨0, 0, none⟩) hg0).trans e0) ?_
           refine hLr ?_
           refine hLc fun K hK => ?_
           go_simp
           refine hK.out _ _ (by exact ((put6_nx hx7 (Nat.le_refl w.heap.size) (ii 0) (ii 0) (ii 0) (ii 0) (nsl) (nsl)).drew.cell (p := ⟨0, 0, none⟩) hg0).trans e0) ?_
           clear hK K
           refine nZ ?_
           refine hLr ?_
           refine HL.done ?_
           clear u0 u1 u2 u3 u4 u5 f0 f1 f2 f3 f4 f5
           go_wp2
           have q := (put6_box b7 (ii 0) (ii 0) (ii 0) (ii 0) (nsl) (nsl)).drew
           have hnf := (put6_nx hx7 (Nat.le_refl w.heap.size) (ii 0) (ii 0) (ii 0) (ii 0) (nsl) (nsl)).drew
           change bodyPost _ _ _ _ _ (World.drew (put6 w7 w.heap.size (ii 0) (ii 0) (ii 0) (ii 0) (nsl) (nsl)))
           change Box (World.drew (put6 w7 w.heap.size (ii 0) (ii 0) (ii 0) (ii 0) (nsl) (nsl))) _ _ _ at q
           generalize World.drew (put6 w7 w.heap.size (ii 0) (ii 0) (ii 0) (ii 0) (nsl) (nsl)) = Wf at *
           obtain ⟨g0, g1, g2, g3, g4, g5⟩ := q.d6
           exact bodyPost_ret (v := .tuple #[.agg #[ii 0, ii 0, ii 0, ii 0, nsl, nsl], .iface 290 (.pointer (some a0))]) (by simp [results, results48, go_sem, g0, g1, g2, g3, g4, g5]) rfl (RetSU.no HF.out hnf)
         | true =>
           have HF := qh (HU.out.trans (supOf_yes (by rw [Hn0.out, Hn1.out, Hn2.out, Hn3.out, Hxs.out]; exact hf)))
           rw [Hn0.out, Hn1.out, Hn2.out, Hn3.out, Hxs.out] at HF
           clear hf
           have hgl : w.heap.size < w4.heap.size := b4.lt
           obtain ⟨u0, u1, u2, u3, u4, u5⟩ := b7.d6
           have f0 := b7.frozen 0
           have f1 := b7.frozen 1
           have f2 := b7.frozen 2
           have f3 := b7.frozen 3
           have f4 := b7.frozen 4
           have f5 := b7.frozen 5
           go_wp2
           have q := (put6_box b7 (ii n0) (ii n1) (ii n2) (ii n3) (sC A5 xs.length c5) (sC A3 ms.length c3))
           have hnf := (put6_nx hx7 (Nat.le_refl w.heap.size) (ii n0) (ii n1) (ii n2) (ii n3) (sC A5 xs.length c5) (sC A3 ms.length c3))
           have hsf := (hS7.pt6 hgl (ii n0) (ii n1) (ii n2) (ii n3) (sC A5 xs.length c5) (sC A3 ms.length c3))
           change Sl (put6 w7 w.heap.size (ii n0) (ii n1) (ii n2) (ii n3) (sC A5 xs.length c5) (sC A3 ms.length c3)) _ _ _ _ _ at hsf
           have hmf := (hM7.pt6 hlt3 (ii n0) (ii n1) (ii n2) (ii n3) (sC A5 xs.length c5) (sC A3 ms.length c3))
           change Sl (put6 w7 w.heap.size (ii n0) (ii n1) (ii n2) (ii n3) (sC A5 xs.length c5) (sC A3 ms.length c3)) _ _ _ _ _ at hmf
           change bodyPost _ _ _ _ _ (put6 w7 w.heap.size (ii n0) (ii n1) (ii n2) (ii n3) (sC A5 xs.length c5) (sC A3 ms.length c3))
           change Box (put6 w7 w.heap.size (ii n0) (ii n1) (ii n2) (ii n3) (sC A5 xs.length c5) (sC A3 ms.length c3)) _ _ _ at q
           generalize put6 w7 w.heap.size (ii n0) (ii n1) (ii n2) (ii n3) (sC A5 xs.length c5) (sC A3 ms.length c3) = Wf at *
           obtain ⟨g0, g1, g2, g3, g4, g5⟩ := q.d6
           exact bodyPost_ret (v := .tuple #[.agg #[ii n0, ii n1, ii n2, ii n3, sC A5 xs.length c5, sC A3 ms.length c3], .nilIface]) (by simp [results, results48, go_sem, g0, g1, g2, g3, g4, g5]) rfl (RetSU.yes HF.out hc5 (hsf.low oM) (hmf.low oM) hnf)
end
end Go.Proofs.YtieoiailjjnnoaaGreatDoor
