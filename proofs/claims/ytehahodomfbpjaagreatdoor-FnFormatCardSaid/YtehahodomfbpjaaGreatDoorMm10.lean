/-
  Texts of the proof, put together in their order: Mku, Hlu, Rsu, Rd, Aas, Nws.
  Conditions: those of each.
-/
import Derived.Test.YtehahodomfbpjaaGreatDoorMm9
import Derived.LaidEql
import Derived.Stop.Asserts
import Derived.RowKitTokens
/- Contracts of the laws' functions that mark supers and ask whether the marks are still there. Conditions: numbers below 2^40. -/
namespace Go.Proofs.YtehahodomfbpjaaGreatDoor
set_option linter.unusedVariables false
set_option maxRecDepth 100000
open Go.RowKit

def markM (k n : Nat) : List Mrk := (List.range n).map (fun i => (mt (k + i * 2), ((k + i * 2 + 1 : Nat) : Int)))
end Go.Proofs.YtehahodomfbpjaaGreatDoor
/- Contracts of the laws' functions that ask whether a super's marks are still there. Conditions: numbers below 2^40. -/
namespace Go.Proofs.YtehahodomfbpjaaGreatDoor
set_option linter.unusedVariables false
set_option maxRecDepth 100000
open Go.RowKit

end Go.Proofs.YtehahodomfbpjaaGreatDoor
/- Contracts of ReadSuper, as the model and as the program have it, and the walk of the law FnExactReadSuper. Conditions: the package's errors are known; the library's variable MaxLen holds a number. -/
namespace Go.Proofs.YtehahodomfbpjaaGreatDoor
set_option linter.unusedVariables false
set_option maxRecDepth 100000
open Go.RowKit

def RetRU (w : World) (t : ByteArray) (e : Ending) (w' : World) : Prop :=
  Nx w w' ∧ ∃ A c A2 c2, e = .returned (.tuple #[.agg #[.int .i64 (suA t).1, .int .i64 (suA t).2.1, .int .i64 (suA t).2.2.1, .int .i64 (suA t).2.2.2.1, .slice A (suA t).2.2.2.2.1.length c, .slice A2 (suA t).2.2.2.2.2.length c2], .int .i64 (suC t)]) ∧
    (suA t).2.2.2.2.1.length ≤ c ∧ SlI w' w.heap.size A (suA t).2.2.2.2.1 ∧ SlM w' w.heap.size A2 (suA t).2.2.2.2.2
theorem RetRU.un {w w' : World} {t : ByteArray} {e : Ending} {g b p q : Int} {xs : List Int} {ms : List Mrk} {cd : Int} (h : RetRU w t e w') (hq : suA t = (g, b, p, q, xs, ms)) (hc : suC t = cd) :
    Nx w w' ∧ ∃ A c A2 c2, e = .returned (.tuple #[.agg #[.int .i64 g, .int .i64 b, .int .i64 p, .int .i64 q, .slice A xs.length c, .slice A2 ms.length c2], .int .i64 cd]) ∧ xs.length ≤ c ∧ SlI w' w.heap.size A xs ∧ SlM w' w.heap.size A2 ms := by
  unfold RetRU at h; rw [hq, hc] at h; exact h
theorem RetRU.mk {w w' : World} {t : ByteArray} {g b p q : Int} {xs : List Int} {ms : List Mrk} {cd : Int} {c c2 : Nat} {A A2 : Option Addr} (hq : suA t = (g, b, p, q, xs, ms) ∧ suC t = cd) (hc : xs.length ≤ c) (hs : SlI w' w.heap.size A xs) (hm : SlM w' w.heap.size A2 ms) (hn : Nx w w') :
    RetRU w t (.returned (.tuple #[.agg #[.int .i64 g, .int .i64 b, .int .i64 p, .int .i64 q, .slice A xs.length c, .slice A2 ms.length c2], .int .i64 cd])) w' := by
  unfold RetRU; rw [hq.1, hq.2]; exact ⟨hn, A, c, A2, c2, rfl, hc, hs, hm⟩
theorem SlI.nil {w : World} {lo : Nat} : SlI w lo none [] := fun h => absurd h (by simp)
theorem SlM.nil {w : World} {lo : Nat} : SlM w lo none [] := fun h => absurd h (by simp)
theorem RetRU.zero {w w' : World} {t : ByteArray} {cd : Int} (hq : suA t = zU ∧ suC t = cd) (hn : Nx w w') :
    RetRU w t (.returned (.tuple #[.agg #[.int .i64 0, .int .i64 0, .int .i64 0, .int .i64 0, .slice none 0 0, .slice none 0 0], .int .i64 cd])) w' := RetRU.mk (g := 0) (b := 0) (p := 0) (q := 0) (xs := []) (ms := []) hq (Nat.le_refl _) SlI.nil SlM.nil hn
end Go.Proofs.YtehahodomfbpjaaGreatDoor
/- Contracts of ReadSector, as the model and as the program have it: both answer the newest write of a sector. Conditions: the disk can be read, and holds at most 1048576 elements of a kind. -/
namespace Go.Proofs.YtehahodomfbpjaaGreatDoor
set_option linter.unusedVariables false
set_option maxRecDepth 100000
open Go.RowKit

theorem ret_strR {a b : ByteArray} (h : a = b) : Ending.returned (.string a) = .returned (.string b) := by rw [h]
def findLast (ws : List (Int × ByteArray)) (a : Nat) : Nat → Option ByteArray
  | 0 => none
  | k + 1 => if ((ws.getD k (0, ByteArray.empty)).1 == (a : Int)) = true then some (ws.getD k (0, ByteArray.empty)).2 else findLast ws a k
/-- What a sector holds: the newest write there, else what is sure. -/
def readP (ss : List ByteArray) (ws : List (Int × ByteArray)) (a : Nat) : ByteArray := (findLast ws a ws.length).getD (ss.getD a ByteArray.empty)
def LastTo (ws : List (Int × ByteArray)) (a k : Nat) : Prop := findLast ws a ws.length = findLast ws a k
theorem LastTo.start {ws : List (Int × ByteArray)} {a n : Nat} (h : ws.length = n) : LastTo ws a n := by unfold LastTo; rw [h]
theorem LastTo.none_ {ss : List ByteArray} {ws : List (Int × ByteArray)} {a : Nat} (h : LastTo ws a 0) : ss.getD a ByteArray.empty = readP ss ws a := by
  unfold readP; rw [h]; rfl
theorem LastTo.found {ss : List ByteArray} {ws : List (Int × ByteArray)} {a k : Nat} {x : Int} {s : ByteArray} (h : LastTo ws a (k + 1)) (hx : ws.getD k (0, ByteArray.empty) = (x, s)) (he : (x == (a : Int)) = true) : s = readP ss ws a := by
  unfold readP; rw [h, findLast, hx]; simp only [he, if_true, Option.getD_some]
theorem LastTo.next_ {ws : List (Int × ByteArray)} {a k : Nat} {x : Int} {s : ByteArray} (h : LastTo ws a (k + 1)) (hx : ws.getD k (0, ByteArray.empty) = (x, s)) (he : (x == (a : Int)) = false) : LastTo ws a k := by
  unfold LastTo at h ⊢; rw [h, findLast, hx]; simp [he]
set_option maxRecDepth 100000 in
set_option maxHeartbeats 1000000 in
theorem newest_c (A A2 : Option Addr) (n c n2 c2 B a : Nat) (ss : List ByteArray) (ws : List (Int × ByteArray)) (w : World) (h : Strs w B A n ss) (h2 : Wrs w B A2 n2 ws) (hB : B ≤ w.heap.size) (ha : a < n) (hn : n ≤ 1048576) (hn2 : n2 ≤ 1048576) :
    Calls Tryz.prog 217 #[.agg #[.slice A n c, .slice A2 n2 c2], .int .i64 a] w fun e w' => e = .returned (.string (readP ss ws a)) ∧ Nx w w' := by
  have HL := Lib.hid h2.1
  go_enter Tryz.func217, Tryz.ntmps217
  go_wp2
  go_loop [5] (fun i => ∃ k : Nat, k ≤ n2 ∧ i = .int .i64 ((k : Int) - 1) ∧ LastTo ws a k) (fun i => (intOf i + 1).toNat)
  case atStart => exact ⟨n2, Nat.le_refl _, rfl, LastTo.start HL.out⟩
  case round =>
    obtain ⟨k, hk, rfl, hto⟩ := hrel
    rcases Nat.eq_zero_or_pos k with hz | hpos
    · subst hz
      obtain ⟨b, off, rfl, hb, hc⟩ := (h.below ((Nx.refl w).alloc (.cells #[.slice A n c, .slice A2 n2 c2] 38)) hB).at_ ha
      have HF := Lib.hid (hto.none_ (ss := ss))
      generalize ss.getD a ByteArray.empty = s at hc HF
      go_wp2
      go_ret
      exact ⟨ret_strR HF.out, (Nx.refl _).alloc _⟩
    · obtain ⟨j, rfl⟩ : ∃ j, k = j + 1 := ⟨k - 1, by omega⟩
      have ej : (((j + 1 : Nat) : Int) - 1) = (j : Int) := by omega
      rw [ej]
      obtain ⟨b, off, rfl, hb, hc, hd⟩ := (h2.below ((Nx.refl w).alloc (.cells #[.slice A n c, .slice A2 n2 c2] 38)) hB).at_ (k := j) (by omega)
      obtain ⟨⟨x, s⟩, Hs⟩ : ∃ s, Hid (ws.getD j (0, ByteArray.empty) = s) := ⟨_, rfl⟩
      rw [Hs.out] at hc hd
      clear ej
      cases hx : (x == (a : Int)) with
      | true =>
        have HF := Lib.hid (hto.found (ss := ss) Hs.out hx)
        go_wp2
        go_ret
        exact ⟨ret_strR HF.out, (Nx.refl _).alloc _⟩
      | false =>
        have HF := Lib.hid (hto.next_ Hs.out hx)
        go_wp2
        go_round
        case rel => exact ⟨j, by omega, rfl, HF.out⟩
        case measure => simp [intOf]

end Go.Proofs.YtehahodomfbpjaaGreatDoor
/- errors.As at a target that is a slotError: of no error, and of one. Conditions: the library's errorType is the type of errors. -/
namespace Go.Proofs.YtehahodomfbpjaaGreatDoor
set_option linter.unusedVariables false
set_option maxRecDepth 100000
open Go.RowKit Go.Extern.Stop Go.Stop Go.Extern

theorem as_nil (t : Value) (w : World) : Calls Tryz.prog 202 #[.nilIface, t] w fun e w' => e = .returned (.bool false) ∧ w' = w := by
  go_enter Tryz.func202, Tryz.ntmps202
  go_wp2
  go_ret
  exact ⟨rfl, rfl⟩
theorem asValP (t : Addr) (w : World) : (ReflectliteValue.unpack (.iface 219 (.pointer (some t)))).run Tryz.prog w
    = .ok (.agg #[.pointer (some ⟨9, 219, none⟩), .pointer (some ⟨w.heap.size, 0, none⟩), .int .u64 150]) (w.alloc (.cells #[.pointer (some t)] 219)) := by kernel_rfl
theorem asTypP (a : Addr) (w : World) : (ReflectliteValue.methodAny (ReflectliteValue.valueError "reflectlite.Value.Type" 0) (fun t _ _ _ => ReflectliteType.toType t) #[.agg #[.pointer (some ⟨9, 219, none⟩), .pointer (some a), .int .u64 150]]).run Tryz.prog w
    = .ok (.iface 262 (.agg #[.pointer (some ⟨9, 219, none⟩)])) w := by kernel_rfl
theorem asMK (h : Value) (w : World) : (Go.method 434 262 (.agg #[h]) "Kind").run Tryz.prog w = .ok (301, h) w := by kernel_rfl
theorem asKP (w : World) : ((ReflectliteType.abiMethod fun t => (fun a : Nat => Value.int IntKind.u8 (a : Int)) <$> Rtype.kind t) #[.pointer (some ⟨9, 219, none⟩)]).run Tryz.prog w = .ok (.int .u8 22) w := by kernel_rfl
theorem asKE (w : World) : ((ReflectliteType.abiMethod fun t => (fun a : Nat => Value.int IntKind.u8 (a : Int)) <$> Rtype.kind t) #[.pointer (some ⟨9, 217, none⟩)]).run Tryz.prog w = .ok (.int .u8 25) w := by kernel_rfl
theorem asRlm (z : Sem Value) (f : TypeId → Addr → Nat → Nat → Sem Value) (v : Value) :
    ReflectliteValue.method z f #[v] = (do match ← ReflectliteValue.parts v with | none => z | some (t, a, fl) => f t a fl (fl % 32)) := rfl
theorem asPartsP (a : Addr) (w : World) : (ReflectliteValue.parts (.agg #[.pointer (some ⟨9, 219, none⟩), .pointer (some a), .int .u64 150])).run Tryz.prog w = .ok (some (219, a, 150)) w := by kernel_rfl
theorem asNilP (a p : Addr) (W : World) (ha : W.cell? a = some (.pointer (some p))) :
    (ReflectliteValue.method (ReflectliteValue.valueError "reflectlite.Value.IsNil" 0) ReflectliteValue.isNil #[.agg #[.pointer (some ⟨9, 219, none⟩), .pointer (some a), .int .u64 150]]).run Tryz.prog W = .ok (.bool false) W := by
  rw [asRlm]
  simp only [Sem.run_bind, asPartsP, Result.andThen]
  simp [ReflectliteValue.isNil, loadVar, isAgg, underlying, Tryz.underlying219, ha, Result.andThen]
theorem asME (h : Value) (w : World) : (Go.method 434 262 (.agg #[h]) "Elem").run Tryz.prog w = .ok (312, .agg #[h]) w := by kernel_rfl
theorem asMI (h : Value) (w : World) : (Go.method 434 262 (.agg #[h]) "Implements").run Tryz.prog w = .ok (313, .agg #[h]) w := by kernel_rfl
theorem asMA (h : Value) (w : World) : (Go.method 434 262 (.agg #[h]) "AssignableTo").run Tryz.prog w = .ok (310, .agg #[h]) w := by kernel_rfl
theorem asElP (w : World) : (ReflectliteType.method ReflectliteType.elem #[.agg #[.pointer (some ⟨9, 219, none⟩)]]).run Tryz.prog w = .ok (.iface 262 (.agg #[.pointer (some ⟨9, 217, none⟩)])) w := by kernel_rfl
theorem asImE (w : World) : (ReflectliteType.relation "Implements" ReflectliteType.implements_ #[.agg #[.pointer (some ⟨9, 217, none⟩)], .iface 262 (.agg #[.pointer (some ⟨9, 136, none⟩)])]).run Tryz.prog w = .ok (.bool true) w := by kernel_rfl
theorem asTyE (v : Value) (w : World) : (ReflectliteType.typeOf #[.iface 217 v]).run Tryz.prog w = .ok (.iface 262 (.agg #[.pointer (some ⟨9, 217, none⟩)])) w := by kernel_rfl
theorem asAsE (w : World) : (ReflectliteType.relation "AssignableTo" ReflectliteType.assignableTo #[.agg #[.pointer (some ⟨9, 217, none⟩)], .iface 262 (.agg #[.pointer (some ⟨9, 217, none⟩)])]).run Tryz.prog w = .ok (.bool true) w := by kernel_rfl
theorem asValE (s c : Int) (w : World) : (ReflectliteValue.unpack (.iface 217 (.agg #[.int .i64 s, .int .i64 c]))).run Tryz.prog w
    = .ok (.agg #[.pointer (some ⟨9, 217, none⟩), .pointer (some ⟨w.heap.size, 0, none⟩), .int .u64 153]) (w.alloc (.cells #[.int .i64 s, .int .i64 c] 217)) := by kernel_rfl
theorem asElemOf (w : World) : (Rtype.elem? 219).run Tryz.prog w = .ok (some 217) w := by kernel_rfl
theorem asMkE (p : Addr) (w : World) : (ReflectliteValue.mk 217 p ReflectliteValue.flagAddr).run Tryz.prog w = .ok (.agg #[.pointer (some ⟨9, 217, none⟩), .pointer (some p), .int .u64 409]) w := by kernel_rfl
theorem asElV (a p : Addr) (W : World) (ha : W.cell? a = some (.pointer (some p))) :
    (ReflectliteValue.method (ReflectliteValue.valueError "reflectlite.Value.Elem" 0) ReflectliteValue.elem #[.agg #[.pointer (some ⟨9, 219, none⟩), .pointer (some a), .int .u64 150]]).run Tryz.prog W
      = .ok (.agg #[.pointer (some ⟨9, 217, none⟩), .pointer (some p), .int .u64 409]) W := by
  rw [asRlm]
  simp only [Sem.run_bind, asPartsP, Result.andThen]
  simp [ReflectliteValue.elem, loadVar, isAgg, underlying, Tryz.underlying219, ha, Result.andThen, asElemOf, asMkE]
theorem asRls (v x : Value) : ReflectliteValue.set #[v, x] = (do
    let (some (dst, a, fl), some (src, b, _)) := (← ReflectliteValue.parts v, ← ReflectliteValue.parts x)
      | unsupported (.noEntry "extern/(internal/reflectlite.Value).Set.zeroValue")
    if fl / ReflectliteValue.flagAddr % 2 == 0 then unsupported (.noEntry "extern/(internal/reflectlite.Value).Set.unaddressable")
    let val ← loadVar src b
    if ← Rtype.directlyAssignable dst src then storeVar dst a val
    else if ← Rtype.implements dst src then
      if (← Rtype.kind src) == 20 then
        match val with
        | .nilIface => unsupported (.noEntry "extern/reflectlite: a nil value of one interface type handed on as a value of another")
        | _ => storeVar dst a val
      else storeVar dst a (.iface src val)
    else panicString ("reflectlite.Set: value of type " ++ (← Rtype.spelt src) ++ " is not assignable to type " ++ (← Rtype.spelt dst))
    pure (.tuple #[])) := rfl
theorem asPartsA (a : Addr) (w : World) : (ReflectliteValue.parts (.agg #[.pointer (some ⟨9, 217, none⟩), .pointer (some a), .int .u64 409])).run Tryz.prog w = .ok (some (217, a, 409)) w := by kernel_rfl
theorem asPartsE (a : Addr) (w : World) : (ReflectliteValue.parts (.agg #[.pointer (some ⟨9, 217, none⟩), .pointer (some a), .int .u64 153])).run Tryz.prog w = .ok (some (217, a, 153)) w := by kernel_rfl
theorem asDir (w : World) : (Rtype.directlyAssignable 217 217).run Tryz.prog w = .ok true w := by kernel_rfl
theorem asSize : (Tryz.prog.info? 217).map (·.size) = some 2 := by kernel_rfl
theorem asSet (g b : Nat) (s c : Int) (o0 o1 : Value) (W : World) (hb0 : W.cell? ⟨b, 0, none⟩ = some (.int .i64 s)) (hb1 : W.cell? ⟨b, 1, none⟩ = some (.int .i64 c)) (ht : Box W g 217 #[o0, o1]) :
    (ReflectliteValue.set #[.agg #[.pointer (some ⟨9, 217, none⟩), .pointer (some ⟨g, 0, none⟩), .int .u64 409], .agg #[.pointer (some ⟨9, 217, none⟩), .pointer (some ⟨b, 0, none⟩), .int .u64 153]]).run Tryz.prog W
      = .ok (.tuple #[]) ((W.setCell ⟨g, 0, none⟩ (.int .i64 s)).setCell ⟨g, 1, none⟩ (.int .i64 c)) := by
  rw [asRls]
  simp only [Sem.run_bind, asPartsA, asPartsE, Result.andThen]
  obtain ⟨i0, hi0, hz0⟩ : ∃ i0, Tryz.prog.info? 217 = some i0 ∧ i0.size = 2 := by
    have := asSize
    cases h : Tryz.prog.info? 217 with
    | none => rw [h] at this; cases this
    | some i => rw [h] at this; exact ⟨i, rfl, by simpa using this⟩
  have ht1 := ht.set0 (.int .i64 s)
  have f0 := ht.frozen 0
  have f1 := ht1.frozen 1
  have c0 := ht.c0
  have c1 := ht1.c1
  have s0 : (store ⟨g, 0, none⟩ (.int .i64 s)).run Tryz.prog W = .ok () (W.setCell ⟨g, 0, none⟩ (.int .i64 s)) := by
    rw [run_store Tryz.prog W _ _ _ (by rfl)]; simp [c0, f0]
  have s1 : (store ⟨g, 1, none⟩ (.int .i64 c)).run Tryz.prog (W.setCell ⟨g, 0, none⟩ (.int .i64 s)) = .ok () ((W.setCell ⟨g, 0, none⟩ (.int .i64 s)).setCell ⟨g, 1, none⟩ (.int .i64 c)) := by
    rw [run_store Tryz.prog _ _ _ _ (by rfl)]; simp [c1, f1]
  simp [ReflectliteValue.flagAddr, loadVar, isAgg, underlying, Tryz.underlying217, hb0, hb1, Result.andThen, asDir, storeVar, Value.cells, storeCells, Addr.add, sizeOf, typeInfo, hi0, hz0, loadCells, loadCellsFrom, s0, s1]

/-- The library's errorType is the type of errors. -/
def Et (w : World) : Prop := w.cell? ⟨2, 0, none⟩ = some (.iface 262 (.agg #[.pointer (some ⟨9, 136, none⟩)]))
theorem Et.nx {w w' : World} (h : Et w) (hb : Nx w w') : Et w' := (hb.cell (World.block_lt_of_cell? w _ h)).trans h
set_option maxHeartbeats 4000000 in
/-- errors.As of a slotError: the variable g is set; new blocks are made. -/
theorem as_hit (s c : Int) (g : Nat) (o0 o1 : Value) (w : World) (hg : Et w) (ht : Box w g 217 #[o0, o1]) :
    Calls Tryz.prog 202 #[.iface 217 (.agg #[.int .i64 s, .int .i64 c]), .iface 219 (.pointer (some ⟨g, 0, none⟩))] w fun ev w' => ev = .returned (.bool true) ∧ Rg g (g + 1) w w' ∧ Box w' g 217 #[.int .i64 s, .int .i64 c] := by
  have h6 := @run_callFunc_extern Tryz.prog 241 _ (fun args => ReflectliteValue.unpack (args.getD 0 (.tuple #[]))) Tryz.func241 (by kernel_rfl) (by kernel_rfl) (by kernel_rfl) (by kernel_rfl)
  have h7 := @run_callFunc_extern Tryz.prog 242 _ (ReflectliteValue.methodAny (ReflectliteValue.valueError "reflectlite.Value.Type" 0) (fun t _ _ _ => ReflectliteType.toType t)) Tryz.func242 (by kernel_rfl) (by kernel_rfl) (by kernel_rfl) (by kernel_rfl)
  have h8 := @run_callFunc_extern Tryz.prog 243 _ (ReflectliteValue.method (ReflectliteValue.valueError "reflectlite.Value.IsNil" 0) ReflectliteValue.isNil) Tryz.func243 (by kernel_rfl) (by kernel_rfl) (by kernel_rfl) (by kernel_rfl)
  have h27 := @run_callFunc_extern Tryz.prog 301 _ (ReflectliteType.abiMethod fun t => do pure (.int .u8 (← Rtype.kind t))) Tryz.func301 (by kernel_rfl) (by kernel_rfl) (by kernel_rfl) (by kernel_rfl)
  have h37 := @run_callFunc_extern Tryz.prog 312 _ (ReflectliteType.method ReflectliteType.elem) Tryz.func312 (by kernel_rfl) (by kernel_rfl) (by kernel_rfl) (by kernel_rfl)
  have h38 := @run_callFunc_extern Tryz.prog 313 _ (ReflectliteType.relation "Implements" ReflectliteType.implements_) Tryz.func313 (by kernel_rfl) (by kernel_rfl) (by kernel_rfl) (by kernel_rfl)
  have h10 := @run_callFunc_extern Tryz.prog 239 _ ReflectliteType.typeOf Tryz.func239 (by kernel_rfl) (by kernel_rfl) (by kernel_rfl) (by kernel_rfl)
  have h35 := @run_callFunc_extern Tryz.prog 310 _ (ReflectliteType.relation "AssignableTo" ReflectliteType.assignableTo) Tryz.func310 (by kernel_rfl) (by kernel_rfl) (by kernel_rfl) (by kernel_rfl)
  have h11 := @run_callFunc_extern Tryz.prog 257 _ (ReflectliteValue.method (ReflectliteValue.valueError "reflectlite.Value.Elem" 0) ReflectliteValue.elem) Tryz.func257 (by kernel_rfl) (by kernel_rfl) (by kernel_rfl) (by kernel_rfl)
  have h12 := @run_callFunc_extern Tryz.prog 258 _ ReflectliteValue.set Tryz.func258 (by kernel_rfl) (by kernel_rfl) (by kernel_rfl) (by kernel_rfl)
  have tO := asTyE
  have mA := asMA
  have a25 := asAsE
  have v25 := asValE
  have f6 := asValP
  have f7 := asTypP
  have mK := asMK
  have mE := asME
  have mI := asMI
  have k27 := asKP
  have k25 := asKE
  have e27 := asElP
  have i25 := asImE
  have hglt := World.block_lt_of_cell? w _ hg
  have htl := ht.lt
  obtain ⟨w1, hw1⟩ : ∃ x, w.alloc (.cells #[.pointer (some ⟨g, 0, none⟩)] 219) = x := ⟨_, rfl⟩
  obtain ⟨w2, hw2⟩ : ∃ x, w1.alloc (.cells #[.pointer (some ⟨9, 219, none⟩), .pointer (some ⟨w.heap.size, 0, none⟩), .int .u64 150] 243) = x := ⟨_, rfl⟩
  obtain ⟨w3, hw3⟩ : ∃ x, w2.alloc (.cells #[.pointer (some ⟨9, 219, none⟩), .pointer (some ⟨w.heap.size, 0, none⟩), .int .u64 150] 243) = x := ⟨_, rfl⟩
  obtain ⟨w4, hw4⟩ : ∃ x, w3.alloc (.cells #[.int .i64 s, .int .i64 c] 217) = x := ⟨_, rfl⟩
  have x1 : Nx w w1 := by rw [← hw1]; exact (Nx.refl w).alloc _
  have x2 : Nx w1 w2 := by rw [← hw2]; exact (Nx.refl w1).alloc _
  have x3 : Nx w2 w3 := by rw [← hw3]; exact (Nx.refl w2).alloc _
  have x4 : Nx w3 w4 := by rw [← hw4]; exact (Nx.refl w3).alloc _
  have bp : Box w1 w.heap.size 219 #[.pointer (some ⟨g, 0, none⟩)] := by rw [← hw1]; exact Box.new w _ _
  have bv : Box w4 w3.heap.size 217 #[.int .i64 s, .int .i64 c] := by rw [← hw4]; exact Box.new w3 _ _
  have n8 := asNilP ⟨w.heap.size, 0, none⟩ ⟨g, 0, none⟩ w2 ((bp.nx x2).cell 0)
  have el := asElV ⟨w.heap.size, 0, none⟩ ⟨g, 0, none⟩ w3 (((bp.nx x2).nx x3).cell 0)
  have hg2 := (hg.nx x1).nx x2
  have b4 := (((ht.nx x1).nx x2).nx x3).nx x4
  have st := asSet g w3.heap.size s c o0 o1 w4 bv.c0 bv.c1 b4
  unfold Et at hg2
  have z1 : w1.heap.size = w.heap.size + 1 := by rw [← hw1]; simp
  have z2 : w2.heap.size = w.heap.size + 1 + 1 := by rw [← hw2, ← z1]; simp
  have z3 : w3.heap.size = w.heap.size + 1 + 1 + 1 := by rw [← hw3, ← z2]; simp
  have q2 : Box w2 (w.heap.size + 1) 243 #[.pointer (some ⟨9, 219, none⟩), .pointer (some ⟨w.heap.size, 0, none⟩), .int .u64 150] := by rw [← z1, ← hw2]; exact Box.new w1 _ _
  have q3 : Box w3 (w.heap.size + 1 + 1) 243 #[.pointer (some ⟨9, 219, none⟩), .pointer (some ⟨w.heap.size, 0, none⟩), .int .u64 150] := by rw [← z2, ← hw3]; exact Box.new w2 _ _
  obtain ⟨r0, r1, r2⟩ := q2.d3
  obtain ⟨t0, t1, t2⟩ := q3.d3
  rw [z3] at st
  go_enter Tryz.func202, Tryz.ntmps202
  go_wp2
  refine wp_loop_rounds 1 ?_
  rw [rounds_succ]
  go_wp2
  go_ret
  exact ⟨rfl, ((Rg.of_nx (((x1.trans x2).trans x3).trans x4)).setCell (p := ⟨g, 0, none⟩) (Nat.le_refl _) (by simp) _).setCell (p := ⟨g, 1, none⟩) (Nat.le_refl _) (by simp) _, (b4.set0 _).set1 _⟩
end Go.Proofs.YtehahodomfbpjaaGreatDoor
/- Contracts of the program's functions that look for the newest super: superIn. Conditions: the disk can be read; the sector's text has at most 65536 bytes; the package's errors are known; the library's variable MaxLen holds a number. -/
namespace Go.Proofs.YtehahodomfbpjaaGreatDoor
set_option linter.unusedVariables false
set_option maxRecDepth 100000
open Go.RowKit

theorem findLast_in {ws : List (Int × ByteArray)} {a : Nat} : ∀ {k : Nat} {s : ByteArray}, findLast ws a k = some s → k ≤ ws.length → ∃ x, (x, s) ∈ ws
  | 0, s, h, _ => by cases h
  | k + 1, s, h, hk => by
    unfold findLast at h
    split at h
    · injection h with h
      have hk' : k < ws.length := by omega
      refine ⟨(ws.getD k (0, ByteArray.empty)).1, ?_⟩
      rw [← h, List.getD_eq_getElem?_getD, List.getElem?_eq_getElem hk', Option.getD_some]
      exact List.getElem_mem hk'
    · exact findLast_in h (by omega)
theorem readP_size {ss : List ByteArray} {ws : List (Int × ByteArray)} (h : diskB ss ws = true) (a : Nat) : (readP ss ws a).size ≤ 300 := by
  obtain ⟨_, _, h3, h4⟩ := diskB_len64 h
  unfold readP
  cases hf : findLast ws a ws.length with
  | some s =>
    obtain ⟨x, hx⟩ := findLast_in hf (Nat.le_refl _)
    have h5 := List.all_eq_true.1 h4 _ hx
    unfold wOk sOk at h5
    simp only [Bool.and_eq_true, decide_eq_true_eq] at h5
    exact h5.2
  | none =>
    rw [Option.getD_none]
    by_cases ha : a < ss.length
    · rw [List.getD_eq_getElem?_getD, List.getElem?_eq_getElem ha, Option.getD_some]
      have h5 := List.all_eq_true.1 h3 _ (List.getElem_mem ha)
      unfold sOk at h5
      simpa using h5
    · rw [List.getD_eq_getElem?_getD, List.getElem?_eq_none (by omega)]; simp
set_option maxHeartbeats 1600000 in
theorem superIn_c (A A2 : Option Addr) (n c n2 c2 B a : Nat) (ss : List ByteArray) (ws : List (Int × ByteArray)) (w : World) (a0 a1 : Addr) (h : Strs w B A n ss) (h2 : Wrs w B A2 n2 ws) (hB : B ≤ w.heap.size) (ha : a < n) (hn : n ≤ 1048576) (hn2 : n2 ≤ 1048576) (hr : (readP ss ws a).size ≤ 65536) (hE : Er w a0 a1) (hM : Mx w) :
    Calls Tryz.prog 204 #[.agg #[.slice A n c, .slice A2 n2 c2], .int .i64 a] w (RetSU w (rdU (readP ss ws a)) (.iface 217 (.agg #[.int .i64 a, .int .i64 19])) .nilIface) := by
  have b0 : Box ((w.alloc (.cells #[.slice A n c, .slice A2 n2 c2] 38)).alloc (.cells #[.int .i64 0, .int .i64 0, .int .i64 0, .int .i64 0, .slice none 0 0, .slice none 0 0] 30)) (w.heap.size + 1) 30 #[.int .i64 0, .int .i64 0, .int .i64 0, .int .i64 0, .slice none 0 0, .slice none 0 0] := by have := Box.new (w.alloc (.cells #[.slice A n c, .slice A2 n2 c2] 38)) 30 #[.int .i64 0, .int .i64 0, .int .i64 0, .int .i64 0, .slice none 0 0, .slice none 0 0]; rwa [World.size_alloc] at this
  have hx0 := ((Nx.refl w).alloc (.cells #[.slice A n c, .slice A2 n2 c2] 38)).alloc (.cells #[.int .i64 0, .int .i64 0, .int .i64 0, .int .i64 0, .slice none 0 0, .slice none 0 0] 30)
  go_enter Tryz.func204, Tryz.ntmps204
  go_wp2_with fail
  generalize (w.alloc (.cells #[.slice A n c, .slice A2 n2 c2] 38)).alloc (.cells #[.int .i64 0, .int .i64 0, .int .i64 0, .int .i64 0, .slice none 0 0, .slice none 0 0] 30) = W at *
  obtain ⟨gR, Hg⟩ : ∃ g, Hid (w.heap.size + 1 = g) := ⟨_, rfl⟩
  have hgR : w.heap.size ≤ gR := by have := Hg.out; omega
  rw [Hg.out] at b0 ⊢
  have hgl := b0.lt
  refine (newest_c A A2 n c n2 c2 B a ss ws _ (h.below hx0 hB) (h2.below hx0 hB) (Nat.le_trans hB hx0.size) ha hn hn2).mono ?_
  rintro e w1 ⟨rfl, hnx1⟩
  obtain ⟨x, Hx⟩ : ∃ x, Hid (readP ss ws a = x) := ⟨_, rfl⟩
  rw [Hx.out] at hr ⊢
  have hx1 := hx0.trans hnx1
  have b1 := b0.nx hnx1
  have hgl1 : gR < w1.heap.size := b1.lt
  clear b0 hx0 hnx1
  go_wp2_with fail
  refine (superOfText_c x _ a0 a1 hr (hE.nx hx1) (hM.nx hx1)).mono ?_
  rintro e w2 ⟨hnx2, h1, h2'⟩
  have b2 := b1.nx hnx2
  have hx2 := hx1.trans hnx2
  clear b1 hx1 hnx2
  have hlt := b2.lt
  cases hu : rdU x with
  | none =>
    obtain rfl := h1 hu
    have HF : Hid (rdU (readP ss ws a) = none) := Lib.hid (by rw [Hx.out]; exact hu)
    clear h1 h2' hu
    obtain ⟨u0, u1, u2, u3, u4, u5⟩ := b2.d6
    have f0 := b2.frozen 0
    have f1 := b2.frozen 1
    have f2 := b2.frozen 2
    have f3 := b2.frozen 3
    have f4 := b2.frozen 4
    have f5 := b2.frozen 5
    go_wp2
    have qx := ((put6_box b2 (.int .i64 0) (.int .i64 0) (.int .i64 0) (.int .i64 0) (.slice none 0 0) (.slice none 0 0)).alloc (.cells #[.int .i64 0, .int .i64 0, .int .i64 0, .int .i64 0, .slice none 0 0, .slice none 0 0] 30))
    have hnf := ((put6_nx hx2 (hgR) (.int .i64 0) (.int .i64 0) (.int .i64 0) (.int .i64 0) (.slice none 0 0) (.slice none 0 0)).alloc (.cells #[.int .i64 0, .int .i64 0, .int .i64 0, .int .i64 0, .slice none 0 0, .slice none 0 0] 30))
    change bodyPost _ _ _ _ _ (World.alloc (put6 w2 gR (.int .i64 0) (.int .i64 0) (.int .i64 0) (.int .i64 0) (.slice none 0 0) (.slice none 0 0)) (.cells #[.int .i64 0, .int .i64 0, .int .i64 0, .int .i64 0, .slice none 0 0, .slice none 0 0] 30))
    change Box (World.alloc (put6 w2 gR (.int .i64 0) (.int .i64 0) (.int .i64 0) (.int .i64 0) (.slice none 0 0) (.slice none 0 0)) (.cells #[.int .i64 0, .int .i64 0, .int .i64 0, .int .i64 0, .slice none 0 0, .slice none 0 0] 30)) _ _ _ at qx
    generalize World.alloc (put6 w2 gR (.int .i64 0) (.int .i64 0) (.int .i64 0) (.int .i64 0) (.slice none 0 0) (.slice none 0 0)) (.cells #[.int .i64 0, .int .i64 0, .int .i64 0, .int .i64 0, .slice none 0 0, .slice none 0 0] 30) = Wf at *
    obtain ⟨g0, g1, g2, g3, g4, g5⟩ := qx.d6
    exact bodyPost_ret (v := .tuple #[.agg #[.int .i64 0, .int .i64 0, .int .i64 0, .int .i64 0, .slice none 0 0, .slice none 0 0], .iface 217 (.agg #[.int .i64 a, .int .i64 19])]) (by simp [results, Tryz.results204, go_sem, g0, g1, g2, g3, g4, g5]) rfl (RetSU.no HF.out hnf)
  | some u =>
    obtain ⟨g, b, p, q, xs, ms⟩ := u
    obtain ⟨Ax, cx, Am, cm, he, hcc, hS1, hM1⟩ := h2' _ hu
    replace he : e = .returned (.tuple #[.agg #[.int .i64 g, .int .i64 b, .int .i64 p, .int .i64 q, .slice Ax xs.length cx, .slice Am ms.length cm], .nilIface]) := he
    replace hS1 : SlI w2 w1.heap.size Ax xs := hS1
    replace hM1 : SlM w2 w1.heap.size Am ms := hM1
    replace hcc : xs.length ≤ cx := hcc
    have HCC := Lib.hid hcc
    have HF : Hid (rdU (readP ss ws a) = some (g, b, p, q, xs, ms)) := Lib.hid (by rw [Hx.out]; exact hu)
    subst he
    clear h1 h2' hu hcc
    obtain ⟨u0, u1, u2, u3, u4, u5⟩ := b2.d6
    have f0 := b2.frozen 0
    have f1 := b2.frozen 1
    have f2 := b2.frozen 2
    have f3 := b2.frozen 3
    have f4 := b2.frozen 4
    have f5 := b2.frozen 5
    go_wp2
    have qx := ((put6_box b2 (.int .i64 g) (.int .i64 b) (.int .i64 p) (.int .i64 q) (.slice Ax xs.length cx) (.slice Am ms.length cm)).alloc (.cells #[.int .i64 g, .int .i64 b, .int .i64 p, .int .i64 q, .slice Ax xs.length cx, .slice Am ms.length cm] 30))
    have hnf := ((put6_nx hx2 (hgR) (.int .i64 g) (.int .i64 b) (.int .i64 p) (.int .i64 q) (.slice Ax xs.length cx) (.slice Am ms.length cm)).alloc (.cells #[.int .i64 g, .int .i64 b, .int .i64 p, .int .i64 q, .slice Ax xs.length cx, .slice Am ms.length cm] 30))
    have hsf := ((hS1.pt6 hgl1 (.int .i64 g) (.int .i64 b) (.int .i64 p) (.int .i64 q) (.slice Ax xs.length cx) (.slice Am ms.length cm)).nx ((Nx.refl _).alloc (.cells #[.int .i64 g, .int .i64 b, .int .i64 p, .int .i64 q, .slice Ax xs.length cx, .slice Am ms.length cm] 30)))
    change Sl (World.alloc (put6 w2 gR (.int .i64 g) (.int .i64 b) (.int .i64 p) (.int .i64 q) (.slice Ax xs.length cx) (.slice Am ms.length cm)) (.cells #[.int .i64 g, .int .i64 b, .int .i64 p, .int .i64 q, .slice Ax xs.length cx, .slice Am ms.length cm] 30)) _ _ _ _ _ at hsf
    have hmf := ((hM1.pt6 hgl1 (.int .i64 g) (.int .i64 b) (.int .i64 p) (.int .i64 q) (.slice Ax xs.length cx) (.slice Am ms.length cm)).nx ((Nx.refl _).alloc (.cells #[.int .i64 g, .int .i64 b, .int .i64 p, .int .i64 q, .slice Ax xs.length cx, .slice Am ms.length cm] 30)))
    change Sl (World.alloc (put6 w2 gR (.int .i64 g) (.int .i64 b) (.int .i64 p) (.int .i64 q) (.slice Ax xs.length cx) (.slice Am ms.length cm)) (.cells #[.int .i64 g, .int .i64 b, .int .i64 p, .int .i64 q, .slice Ax xs.length cx, .slice Am ms.length cm] 30)) _ _ _ _ _ at hmf
    change bodyPost _ _ _ _ _ (World.alloc (put6 w2 gR (.int .i64 g) (.int .i64 b) (.int .i64 p) (.int .i64 q) (.slice Ax xs.length cx) (.slice Am ms.length cm)) (.cells #[.int .i64 g, .int .i64 b, .int .i64 p, .int .i64 q, .slice Ax xs.length cx, .slice Am ms.length cm] 30))
    change Box (World.alloc (put6 w2 gR (.int .i64 g) (.int .i64 b) (.int .i64 p) (.int .i64 q) (.slice Ax xs.length cx) (.slice Am ms.length cm)) (.cells #[.int .i64 g, .int .i64 b, .int .i64 p, .int .i64 q, .slice Ax xs.length cx, .slice Am ms.length cm] 30)) _ _ _ at qx
    generalize World.alloc (put6 w2 gR (.int .i64 g) (.int .i64 b) (.int .i64 p) (.int .i64 q) (.slice Ax xs.length cx) (.slice Am ms.length cm)) (.cells #[.int .i64 g, .int .i64 b, .int .i64 p, .int .i64 q, .slice Ax xs.length cx, .slice Am ms.length cm] 30) = Wf at *
    obtain ⟨hmf0, hmf1, hmf2, hmf3, hmf4, hmf5⟩ := qx.d6
    exact bodyPost_ret (v := .tuple #[.agg #[.int .i64 g, .int .i64 b, .int .i64 p, .int .i64 q, .slice Ax xs.length cx, .slice Am ms.length cm], .nilIface]) (by simp [results, Tryz.results204, go_sem, hmf0, hmf1, hmf2, hmf3, hmf4, hmf5]) rfl (RetSU.yes HF.out HCC.out (hsf.low (by omega)) (hmf.low (by omega)) hnf)

set_option maxHeartbeats 1000000 in
theorem slotCode_c (s k : Int) (w : World) (hE : Et w) : Calls Tryz.prog 117 #[.iface 217 (.agg #[.int .i64 s, .int .i64 k])] w fun e w' => e = .returned (.int .i64 k) ∧ Nx w w' := by
  have b0 := Box.new w 217 #[.int .i64 0, .int .i64 0]
  have hx0 := (Nx.refl w).alloc (.cells #[.int .i64 0, .int .i64 0] 217)
  go_enter Tryz.func117, Tryz.ntmps117
  go_wp2_with fail
  generalize w.alloc (.cells #[.int .i64 0, .int .i64 0] 217) = W at *
  refine (as_hit s k w.heap.size _ _ _ (hE.nx hx0) b0).mono ?_
  rintro e w1 ⟨rfl, hrg, b1⟩
  have y1 := b1.c1
  go_wp2
  go_ret
  exact ⟨rfl, Rg.nx_of hx0 hrg (Nat.le_refl _)⟩
end Go.Proofs.YtehahodomfbpjaaGreatDoor
