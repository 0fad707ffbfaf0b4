/-
  Texts of the proof, in their order.
  Conditions: those of each.
-/
import Derived.Test.YtieoiailjjnnoaaGreatDoorMn5
import Derived.LaidEql
import Derived.Stop.Asserts
import Derived.RowKitTokens
namespace Go.Proofs.YtieoiailjjnnoaaGreatDoor
set_option linter.unusedVariables false
open _root_.Go.Proofs.Tryz
set_option maxRecDepth 100000
set_option maxHeartbeats 16000000
section
open Go.RowKit Go.Extern.Stop Go.Stop Go.Extern
theorem as_nil (t : Value) (w : World) : Calls Tryz.prog 122 #[.nilIface, t] w fun e w' => e = .returned (.bool false) /\ w' = w := by
 go_enter func122, ntmps122
 go_wp2
 go_ret
 exact ⟨rfl, rfl⟩
theorem asValP (t : Addr) (w : World) : (ReflectliteValue.unpack (.iface 161 (.pointer (some t)))).run Tryz.prog w
 = .ok (.agg #[.pointer (some ⟨9, 161, none⟩), .pointer (some ⟨w.heap.size, 0, none⟩), .int .u64 150]) (w.alloc (.cells #[.pointer (some t)] 161)) := by kernel_rfl
theorem asTypP (a : Addr) (w : World) : (ReflectliteValue.methodAny (ReflectliteValue.valueError "reflectlite.Value.Type" 0) (fun t _ _ _ => ReflectliteType.toType t) #[.agg #[.pointer (some ⟨9, 161, none⟩), .pointer (some a), .int .u64 150]]).run Tryz.prog w
 = .ok (.iface 242 (.agg #[.pointer (some ⟨9, 161, none⟩)])) w := by kernel_rfl
theorem asMK (h : Value) (w : World) : (Go.method 420 242 (.agg #[h]) "Kind").run Tryz.prog w = .ok (272, h) w := by kernel_rfl
theorem asKP (w : World) : ((ReflectliteType.abiMethod fun t => (fun a : Nat => Value.int IntKind.u8 (a : Int)) <$> Rtype.kind t) #[.pointer (some ⟨9, 161, none⟩)]).run Tryz.prog w = .ok (.int .u8 22) w := by kernel_rfl
theorem asKE (w : World) : ((ReflectliteType.abiMethod fun t => (fun a : Nat => Value.int IntKind.u8 (a : Int)) <$> Rtype.kind t) #[.pointer (some ⟨9, 159, none⟩)]).run Tryz.prog w = .ok (.int .u8 25) w := by kernel_rfl
theorem asRlm (z : Sem Value) (f : TypeId -> Addr -> Nat -> Nat -> Sem Value) (v : Value) :
 ReflectliteValue.method z f #[v] = (do match <- ReflectliteValue.parts v with | none => z | some (t, a, fl) => f t a fl (fl % 32)) := rfl
theorem asPartsP (a : Addr) (w : World) : (ReflectliteValue.parts (.agg #[.pointer (some ⟨9, 161, none⟩), .pointer (some a), .int .u64 150])).run Tryz.prog w = .ok (some (161, a, 150)) w := by kernel_rfl
theorem asNilP (a p : Addr) (W : World) (ha : W.cell? a = some (.pointer (some p))) :
 (ReflectliteValue.method (ReflectliteValue.valueError "reflectlite.Value.IsNil" 0) ReflectliteValue.isNil #[.agg #[.pointer (some ⟨9, 161, none⟩), .pointer (some a), .int .u64 150]]).run Tryz.prog W = .ok (.bool false) W := by
 rw [asRlm]
 simp only [Sem.run_bind, asPartsP, Result.andThen]
 simp [ReflectliteValue.isNil, loadVar, isAgg, underlying, underlying161, ha, Result.andThen]
theorem asME (h : Value) (w : World) : (Go.method 420 242 (.agg #[h]) "Elem").run Tryz.prog w = .ok (283, .agg #[h]) w := by kernel_rfl
theorem asMI (h : Value) (w : World) : (Go.method 420 242 (.agg #[h]) "Implements").run Tryz.prog w = .ok (284, .agg #[h]) w := by kernel_rfl
theorem asMA (h : Value) (w : World) : (Go.method 420 242 (.agg #[h]) "AssignableTo").run Tryz.prog w = .ok (281, .agg #[h]) w := by kernel_rfl
theorem asElP (w : World) : (ReflectliteType.method ReflectliteType.elem #[.agg #[.pointer (some ⟨9, 161, none⟩)]]).run Tryz.prog w = .ok (.iface 242 (.agg #[.pointer (some ⟨9, 159, none⟩)])) w := by kernel_rfl
theorem asImE (w : World) : (ReflectliteType.relation "Implements" ReflectliteType.implements_ #[.agg #[.pointer (some ⟨9, 159, none⟩)], .iface 242 (.agg #[.pointer (some ⟨9, 86, none⟩)])]).run Tryz.prog w = .ok (.bool true) w := by kernel_rfl
theorem asTyE (v : Value) (w : World) : (ReflectliteType.typeOf #[.iface 159 v]).run Tryz.prog w = .ok (.iface 242 (.agg #[.pointer (some ⟨9, 159, none⟩)])) w := by kernel_rfl
theorem asAsE (w : World) : (ReflectliteType.relation "AssignableTo" ReflectliteType.assignableTo #[.agg #[.pointer (some ⟨9, 159, none⟩)], .iface 242 (.agg #[.pointer (some ⟨9, 159, none⟩)])]).run Tryz.prog w = .ok (.bool true) w := by kernel_rfl
theorem asValE (s c : Int) (w : World) : (ReflectliteValue.unpack (.iface 159 (.agg #[ii s, ii c]))).run Tryz.prog w
 = .ok (.agg #[.pointer (some ⟨9, 159, none⟩), .pointer (some ⟨w.heap.size, 0, none⟩), .int .u64 153]) (w.alloc (.cells #[ii s, ii c] 159)) := by kernel_rfl
theorem asElemOf (w : World) : (Rtype.elem? 161).run Tryz.prog w = .ok (some 159) w := by kernel_rfl
theorem asMkE (p : Addr) (w : World) : (ReflectliteValue.mk 159 p ReflectliteValue.flagAddr).run Tryz.prog w = .ok (.agg #[.pointer (some ⟨9, 159, none⟩), .pointer (some p), .int .u64 409]) w := by kernel_rfl
theorem asElV (a p : Addr) (W : World) (ha : W.cell? a = some (.pointer (some p))) :
 (ReflectliteValue.method (ReflectliteValue.valueError "reflectlite.Value.Elem" 0) ReflectliteValue.elem #[.agg #[.pointer (some ⟨9, 161, none⟩), .pointer (some a), .int .u64 150]]).run Tryz.prog W
  = .ok (.agg #[.pointer (some ⟨9, 159, none⟩), .pointer (some p), .int .u64 409]) W := by
 rw [asRlm]
 simp only [Sem.run_bind, asPartsP, Result.andThen]
 simp [ReflectliteValue.elem, loadVar, isAgg, underlying, underlying161, ha, Result.andThen, asElemOf, asMkE]
theorem asRls (v x : Value) : ReflectliteValue.set #[v, x] = (do
 let (some (dst, a, fl), some (src, b, _)) := (<- ReflectliteValue.parts v, <- ReflectliteValue.parts x)
  | unsupported (.noEntry "extern/(internal/reflectlite.Value).Set.zeroValue")
 if fl / ReflectliteValue.flagAddr % 2 == 0 then unsupported (.noEntry "extern/(internal/reflectlite.Value).Set.unaddressable")
 let val <- loadVar src b
 if <- Rtype.directlyAssignable dst src then storeVar dst a val
 else if <- Rtype.implements dst src then
  if (<- Rtype.kind src) == 20 then
   match val with
   | .nilIface => unsupported (.noEntry "extern/reflectlite: a nil value of one interface type handed on as a value of another")
   | _ => storeVar dst a val
  else storeVar dst a (.iface src val)
 else panicString ("reflectlite.Set: value of type " ++ (<- Rtype.spelt src) ++ " is not assignable to type " ++ (<- Rtype.spelt dst))
 pure (.tuple #[])) := rfl
theorem asPartsA (a : Addr) (w : World) : (ReflectliteValue.parts (.agg #[.pointer (some ⟨9, 159, none⟩), .pointer (some a), .int .u64 409])).run Tryz.prog w = .ok (some (159, a, 409)) w := by kernel_rfl
theorem asPartsE (a : Addr) (w : World) : (ReflectliteValue.parts (.agg #[.pointer (some ⟨9, 159, none⟩), .pointer (some a), .int .u64 153])).run Tryz.prog w = .ok (some (159, a, 153)) w := by kernel_rfl
theorem asDir (w : World) : (Rtype.directlyAssignable 159 159).run Tryz.prog w = .ok true w := by kernel_rfl
theorem asSize : (Tryz.prog.info? 159).map (·.size) = some 2 := by kernel_rfl
theorem asSet (g b : Nat) (s c : Int) (o0 o1 : Value) (W : World) (hb0 : W.cell? ⟨b, 0, none⟩ = some (ii s)) (hb1 : W.cell? ⟨b, 1, none⟩ = some (ii c)) (ht : Box W g 159 #[o0, o1]) :
 (ReflectliteValue.set #[.agg #[.pointer (some ⟨9, 159, none⟩), .pointer (some ⟨g, 0, none⟩), .int .u64 409], .agg #[.pointer (some ⟨9, 159, none⟩), .pointer (some ⟨b, 0, none⟩), .int .u64 153]]).run Tryz.prog W
  = .ok (.tuple #[]) ((W.setCell ⟨g, 0, none⟩ (ii s)).setCell ⟨g, 1, none⟩ (ii c)) := by
 rw [asRls]
 simp only [Sem.run_bind, asPartsA, asPartsE, Result.andThen]
 obtain ⟨i0, hi0, hz0⟩ : ∃ i0, Tryz.prog.info? 159 = some i0 /\ i0.size = 2 := by
  have := asSize
  cases h : Tryz.prog.info? 159 with
  | none => rw [h] at this; cases this
  | some i => rw [h] at this; exact ⟨i, rfl, by simpa using this⟩
 have ht1 := ht.set0 (ii s)
 have f0 := ht.frozen 0
 have f1 := ht1.frozen 1
 have c0 := ht.c0
 have c1 := ht1.c1
 have s0 : (store ⟨g, 0, none⟩ (ii s)).run Tryz.prog W = .ok () (W.setCell ⟨g, 0, none⟩ (ii s)) := by
  rw [run_store Tryz.prog W _ _ _ (by rfl)]; simp [c0, f0]
 have s1 : (store ⟨g, 1, none⟩ (ii c)).run Tryz.prog (W.setCell ⟨g, 0, none⟩ (ii s)) = .ok () ((W.setCell ⟨g, 0, none⟩ (ii s)).setCell ⟨g, 1, none⟩ (ii c)) := by
  rw [run_store Tryz.prog _ _ _ _ (by rfl)]; simp [c1, f1]
 simp [ReflectliteValue.flagAddr, loadVar, isAgg, underlying, underlying159, hb0, hb1, Result.andThen, asDir, storeVar, Value.cells, storeCells, Addr.add, sizeOf, typeInfo, hi0, hz0, loadCells, loadCellsFrom, s0, s1]
def Et (w : World) : Prop := w.cell? ⟨2, 0, none⟩ = some (.iface 242 (.agg #[.pointer (some ⟨9, 86, none⟩)]))
theorem Et.nx {w w' : World} (h : Et w) (hb : Nx w w') : Et w' := (hb.cell (World.block_lt_of_cell? w _ h)).trans h
theorem as_hit (s c : Int) (g : Nat) (o0 o1 : Value) (w : World) (hg : Et w) (ht : Box w g 159 #[o0, o1]) :
 Calls Tryz.prog 122 #[.iface 159 (.agg #[ii s, ii c]), .iface 161 (.pointer (some ⟨g, 0, none⟩))] w fun ev w' => ev = .returned (.bool true) /\ Rg g (g + 1) w w' /\ Box w' g 159 #[ii s, ii c] := by
 have h6 := @run_callFunc_extern Tryz.prog 187 _ (fun args => ReflectliteValue.unpack (args.getD 0 (.tuple #[]))) func187 (by kernel_rfl) (by kernel_rfl) (by kernel_rfl) (by kernel_rfl)
 have h7 := @run_callFunc_extern Tryz.prog 188 _ (ReflectliteValue.methodAny (ReflectliteValue.valueError "reflectlite.Value.Type" 0) (fun t _ _ _ => ReflectliteType.toType t)) func188 (by kernel_rfl) (by kernel_rfl) (by kernel_rfl) (by kernel_rfl)
 have h8 := @run_callFunc_extern Tryz.prog 189 _ (ReflectliteValue.method (ReflectliteValue.valueError "reflectlite.Value.IsNil" 0) ReflectliteValue.isNil) func189 (by kernel_rfl) (by kernel_rfl) (by kernel_rfl) (by kernel_rfl)
 have h27 := @run_callFunc_extern Tryz.prog 272 _ (ReflectliteType.abiMethod fun t => do pure (.int .u8 (<- Rtype.kind t))) func272 (by kernel_rfl) (by kernel_rfl) (by kernel_rfl) (by kernel_rfl)
 have h37 := @run_callFunc_extern Tryz.prog 283 _ (ReflectliteType.method ReflectliteType.elem) func283 (by kernel_rfl) (by kernel_rfl) (by kernel_rfl) (by kernel_rfl)
 have h38 := @run_callFunc_extern Tryz.prog 284 _ (ReflectliteType.relation "Implements" ReflectliteType.implements_) func284 (by kernel_rfl) (by kernel_rfl) (by kernel_rfl) (by kernel_rfl)
 have h10 := @run_callFunc_extern Tryz.prog 184 _ ReflectliteType.typeOf func184 (by kernel_rfl) (by kernel_rfl) (by kernel_rfl) (by kernel_rfl)
 have h35 := @run_callFunc_extern Tryz.prog 281 _ (ReflectliteType.relation "AssignableTo" ReflectliteType.assignableTo) func281 (by kernel_rfl) (by kernel_rfl) (by kernel_rfl) (by kernel_rfl)
 have h11 := @run_callFunc_extern Tryz.prog 217 _ (ReflectliteValue.method (ReflectliteValue.valueError "reflectlite.Value.Elem" 0) ReflectliteValue.elem) func217 (by kernel_rfl) (by kernel_rfl) (by kernel_rfl) (by kernel_rfl)
 have h12 := @run_callFunc_extern Tryz.prog 218 _ ReflectliteValue.set func218 (by kernel_rfl) (by kernel_rfl) (by kernel_rfl) (by kernel_rfl)
 have tO := asTyE
 have mA := asMA
 have a25 := asAsE
 have v25 := asValE
 have f6 := asValP
 have f7 := asTypP
 have mK := asMK
 have mE := asME
 have mI := asMI
 have k27 := asKP
 have k25 := asKE
 have e27 := asElP
 have i25 := asImE
 have hglt := World.block_lt_of_cell? w _ hg
 have htl := ht.lt
 obtain ⟨w1, hw1⟩ : ∃ x, w.alloc (.cells #[.pointer (some ⟨g, 0, none⟩)] 161) = x := ⟨_, rfl⟩
 obtain ⟨w2, hw2⟩ : ∃ x, w1.alloc (.cells #[.pointer (some ⟨9, 161, none⟩), .pointer (some ⟨w.heap.size, 0, none⟩), .int .u64 150] 213) = x := ⟨_, rfl⟩
 obtain ⟨w3, hw3⟩ : ∃ x, w2.alloc (.cells #[.pointer (some ⟨9, 161, none⟩), .pointer (some ⟨w.heap.size, 0, none⟩), .int .u64 150] 213) = x := ⟨_, rfl⟩
 obtain ⟨w4, hw4⟩ : ∃ x, w3.alloc (.cells #[ii s, ii c] 159) = x := ⟨_, rfl⟩
 have x1 : Nx w w1 := by rw [<- hw1]; exact (Nx.refl w).alloc _
 have x2 : Nx w1 w2 := by rw [<- hw2]; exact (Nx.refl w1).alloc _
 have x3 : Nx w2 w3 := by rw [<- hw3]; exact (Nx.refl w2).alloc _
 have x4 : Nx w3 w4 := by rw [<- hw4]; exact (Nx.refl w3).alloc _
 have bp : Box w1 w.heap.size 161 #[.pointer (some ⟨g, 0, none⟩)] := by rw [<- hw1]; exact Box.new w _ _
 have bv : Box w4 w3.heap.size 159 #[ii s, ii c] := by rw [<- hw4]; exact Box.new w3 _ _
 have n8 := asNilP ⟨w.heap.size, 0, none⟩ ⟨g, 0, none⟩ w2 ((bp.nx x2).cell 0)
 have el := asElV ⟨w.heap.size, 0, none⟩ ⟨g, 0, none⟩ w3 (((bp.nx x2).nx x3).cell 0)
 have hg2 := (hg.nx x1).nx x2
 have b4 := (((ht.nx x1).nx x2).nx x3).nx x4
 have st := asSet g w3.heap.size s c o0 o1 w4 bv.c0 bv.c1 b4
 unfold Et at hg2
 have z1 : w1.heap.size = w.heap.size + 1 := by rw [<- hw1]; simp
 have z2 : w2.heap.size = w.heap.size + 1 + 1 := by rw [<- hw2, <- z1]; simp
 have z3 : w3.heap.size = w.heap.size + 1 + 1 + 1 := by rw [<- hw3, <- z2]; simp
 have q2 : Box w2 (w.heap.size + 1) 213 #[.pointer (some ⟨9, 161, none⟩), .pointer (some ⟨w.heap.size, 0, none⟩), .int .u64 150] := by rw [<- z1, <- hw2]; exact Box.new w1 _ _
 have q3 : Box w3 (w.heap.size + 1 + 1) 213 #[.pointer (some ⟨9, 161, none⟩), .pointer (some ⟨w.heap.size, 0, none⟩), .int .u64 150] := by rw [<- z2, <- hw3]; exact Box.new w2 _ _
 obtain ⟨r0, r1, r2⟩ := q2.d3
 obtain ⟨t0, t1, t2⟩ := q3.d3
 rw [z3] at st
 go_enter func122, ntmps122
 go_wp2
 refine wp_loop_rounds 1 ?_
 rw [rounds_succ]
 go_wp2
 go_ret
 exact ⟨rfl, ((Rg.of_nx (((x1.trans x2).trans x3).trans x4)).setCell (p := ⟨g, 0, none⟩) nle (by simp) _).setCell (p := ⟨g, 1, none⟩) nle (by simp) _, (b4.set0 _).set1 _⟩
end
section
open Go.RowKit
theorem findLast_in {ws : List (Int × BA)} {a : Nat} : ∀ {k : Nat} {s : BA}, findLast ws a k = some s -> k <= ws.length -> ∃ x, (x, s) ∈ ws
 | 0, s, h, _ => by cases h
 | k + 1, s, h, hk => by
   unfold findLast at h
   split at h
   . injection h with h
     have hk' : k < ws.length := oM
     refine ⟨(ws.getD k (0, ByteArray.empty)).1, ?_⟩
     rw [<- h, gdE, List.getElem?_eq_getElem hk', Option.getD_some]
     exact List.getElem_mem hk'
   . exact findLast_in h oM
theorem readP_size {ss : List BA} {ws : List (Int × BA)} (h : diskB ss ws = true) (a : Nat) : (readP ss ws a).size <= 300 := by
 obtain ⟨_, _, h3, h4⟩ := diskB_len64 h
 unfold readP
 cases hf : findLast ws a ws.length with
 | some s =>
   obtain ⟨x, hx⟩ := findLast_in hf nle
   have h5 := List.all_eq_true.1 h4 _ hx
   unfold wOk sOk at h5
   simp only [Bool.and_eq_true, decide_eq_true_eq] at h5
   exact h5.2
 | none =>
   rw [Option.getD_none]
   by_cases ha : a < ss.length
   . rw [gdE, List.getElem?_eq_getElem ha, Option.getD_some]
     have h5 := List.all_eq_true.1 h3 _ (List.getElem_mem ha)
     unfold sOk at h5
     simpa using h5
   . rw [gdE, List.getElem?_eq_none oM]; simp
theorem superIn_c (A A2 : Option Addr) (n c n2 c2 B a : Nat) (ss : List BA) (ws : List (Int × BA)) (w : World) (a0 a1 : Addr) (h : Strs w B A n ss) (h2 : Wrs w B A2 n2 ws) (hB : B <= w.heap.size) (ha : a < n) (hn : n <= 1048576) (hn2 : n2 <= 1048576) (hr : (readP ss ws a).size <= 65536) (hE : Er w a0 a1) (hM : Mx w) :
 Calls Tryz.prog 124 #[.agg #[sC A n c, sC A2 n2 c2], ii a] w (RetSU w (rdU (readP ss ws a)) (.iface 159 (.agg #[ii a, ii 19])) .nilIface) := by
 have b0 : Box ((w.alloc (.cells #[sC A n c, sC A2 n2 c2] 35)).alloc (.cells #[ii 0, ii 0, ii 0, ii 0, nsl, nsl] 26)) (w.heap.size + 1) 26 #[ii 0, ii 0, ii 0, ii 0, nsl, nsl] := by have := Box.new (w.alloc (.cells #[sC A n c, sC A2 n2 c2] 35)) 26 #[ii 0, ii 0, ii 0, ii 0, nsl, nsl]; rwa [World.size_alloc] at this
 have hx0 := ((Nx.refl w).alloc (.cells #[sC A n c, sC A2 n2 c2] 35)).alloc (.cells #[ii 0, ii 0, ii 0, ii 0, nsl, nsl] 26)
 go_enter func124, ntmps124
 go_wp2_with fail
 generalize (w.alloc (.cells #[sC A n c, sC A2 n2 c2] 35)).alloc (.cells #[ii 0, ii 0, ii 0, ii 0, nsl, nsl] 26) = W at *
 obtain ⟨gR, Hg⟩ := nM (w.heap.size + 1)
 have hgR : w.heap.size <= gR := by have := Hg.out; omega
 rw [Hg.out] at b0 ⊢
 have hgl := b0.lt
 refine (newest_c A A2 n c n2 c2 B a ss ws _ (h.below hx0 hB) (h2.below hx0 hB) (ntr hB hx0.size) ha hn hn2).mono ?_
 rintro e w1 ⟨rfl, hnx1⟩
 obtain ⟨x, Hx⟩ := nM (readP ss ws a)
 rw [Hx.out] at hr ⊢
 have hx1 := hx0.trans hnx1
 have b1 := b0.nx hnx1
 have hgl1 : gR < w1.heap.size := b1.lt
 clear b0 hx0 hnx1
 go_wp2_with fail
 refine (superOfText_c x _ a0 a1 hr (hE.nx hx1) (hM.nx hx1)).mono ?_
 rintro e w2 ⟨hnx2, h1, h2'⟩
 have b2 := b1.nx hnx2
 have hx2 := hx1.trans hnx2
 clear b1 hx1 hnx2
 have hlt := b2.lt
 cases hu : rdU x with
 | none =>
   obtain rfl := h1 hu
   have HF : Hid (rdU (readP ss ws a) = none) := qh (by rw [Hx.out]; exact hu)
   clear h1 h2' hu
   obtain ⟨u0, u1, u2, u3, u4, u5⟩ := b2.d6
   have f0 := b2.frozen 0
   have f1 := b2.frozen 1
   have f2 := b2.frozen 2
   have f3 := b2.frozen 3
   have f4 := b2.frozen 4
   have f5 := b2.frozen 5
   go_wp2
   have qx := ((put6_box b2 (ii 0) (ii 0) (ii 0) (ii 0) (nsl) (nsl)).alloc (.cells #[ii 0, ii 0, ii 0, ii 0, nsl, nsl] 26))
   have hnf := ((put6_nx hx2 (hgR) (ii 0) (ii 0) (ii 0) (ii 0) (nsl) (nsl)).alloc (.cells #[ii 0, ii 0, ii 0, ii 0, nsl, nsl] 26))
   change bodyPost _ _ _ _ _ (World.alloc (put6 w2 gR (ii 0) (ii 0) (ii 0) (ii 0) (nsl) (nsl)) (.cells #[ii 0, ii 0, ii 0, ii 0, nsl, nsl] 26))
   change Box (World.alloc (put6 w2 gR (ii 0) (ii 0) (ii 0) (ii 0) (nsl) (nsl)) (.cells #[ii 0, ii 0, ii 0, ii 0, nsl, nsl] 26)) _ _ _ at qx
   generalize World.alloc (put6 w2 gR (ii 0) (ii 0) (ii 0) (ii 0) (nsl) (nsl)) (.cells #[ii 0, ii 0, ii 0, ii 0, nsl, nsl] 26) = Wf at *
   obtain ⟨g0, g1, g2, g3, g4, g5⟩ := qx.d6
   exact bodyPost_ret (v := .tuple #[.agg #[ii 0, ii 0, ii 0, ii 0, nsl, nsl], .iface 159 (.agg #[ii a, ii 19])]) (by simp [results, results124, go_sem, g0, g1, g2, g3, g4, g5]) rfl (RetSU.no HF.out hnf)
 | some u =>
   obtain ⟨g, b, p, q, xs, ms⟩ := u
   obtain ⟨Ax, cx, Am, cm, he, hcc, hS1, hM1⟩ := h2' _ hu
   replace he : e = .returned (.tuple #[.agg #[ii g, ii b, ii p, ii q, sC Ax xs.length cx, sC Am ms.length cm], .nilIface]) := he
   replace hS1 : SlI w2 w1.heap.size Ax xs := hS1
   replace hM1 : SlM w2 w1.heap.size Am ms := hM1
   replace hcc : xs.length <= cx := hcc
   have HCC := qh hcc
   have HF : Hid (rdU (readP ss ws a) = some (g, b, p, q, xs, ms)) := qh (by rw [Hx.out]; exact hu)
   subst he
   clear h1 h2' hu hcc
   obtain ⟨u0, u1, u2, u3, u4, u5⟩ := b2.d6
   have f0 := b2.frozen 0
   have f1 := b2.frozen 1
   have f2 := b2.frozen 2
   have f3 := b2.frozen 3
   have f4 := b2.frozen 4
   have f5 := b2.frozen 5
   go_wp2
   have qx := ((put6_box b2 (ii g) (ii b) (ii p) (ii q) (sC Ax xs.length cx) (sC Am ms.length cm)).alloc (.cells #[ii g, ii b, ii p, ii q, sC Ax xs.length cx, sC Am ms.length cm] 26))
   have hnf := ((put6_nx hx2 (hgR) (ii g) (ii b) (ii p) (ii q) (sC Ax xs.length cx) (sC Am ms.length cm)).alloc (.cells #[ii g, ii b, ii p, ii q, sC Ax xs.length cx, sC Am ms.length cm] 26))
   have hsf := ((hS1.pt6 hgl1 (ii g) (ii b) (ii p) (ii q) (sC Ax xs.length cx) (sC Am ms.length cm)).nx ((Nx.refl _).alloc (.cells #[ii g, ii b, ii p, ii q, sC Ax xs.length cx, sC Am ms.length cm] 26)))
   change Sl (World.alloc (put6 w2 gR (ii g) (ii b) (ii p) (ii q) (sC Ax xs.length cx) (sC Am ms.length cm)) (.cells #[ii g, ii b, ii p, ii q, sC Ax xs.length cx, sC Am ms.length cm] 26)) _ _ _ _ _ at hsf
   have hmf := ((hM1.pt6 hgl1 (ii g) (ii b) (ii p) (ii q) (sC Ax xs.length cx) (sC Am ms.length cm)).nx ((Nx.refl _).alloc (.cells #[ii g, ii b, ii p, ii q, sC Ax xs.length cx, sC Am ms.length cm] 26)))
   change Sl (World.alloc (put6 w2 gR (ii g) (ii b) (ii p) (ii q) (sC Ax xs.length cx) (sC Am ms.length cm)) (.cells #[ii g, ii b, ii p, ii q, sC Ax xs.length cx, sC Am ms.length cm] 26)) _ _ _ _ _ at hmf
   change bodyPost _ _ _ _ _ (World.alloc (put6 w2 gR (ii g) (ii b) (ii p) (ii q) (sC Ax xs.length cx) (sC Am ms.length cm)) (.cells #[ii g, ii b, ii p, ii q, sC Ax xs.length cx, sC Am ms.length cm] 26))
   change Box (World.alloc (put6 w2 gR (ii g) (ii b) (ii p) (ii q) (sC Ax xs.length cx) (sC Am ms.length cm)) (.cells #[ii g, ii b, ii p, ii q, sC Ax xs.length cx, sC Am ms.length cm] 26)) _ _ _ at qx
   generalize World.alloc (put6 w2 gR (ii g) (ii b) (ii p) (ii q) (sC Ax xs.length cx) (sC Am ms.length cm)) (.cells #[ii g, ii b, ii p, ii q, sC Ax xs.length cx, sC Am ms.length cm] 26) = Wf at *
   obtain ⟨hmf0, hmf1, hmf2, hmf3, hmf4, hmf5⟩ := qx.d6
   exact bodyPost_ret (v := .tuple #[.agg #[ii g, ii b, ii p, ii q, sC Ax xs.length cx, sC Am ms.length cm], .nilIface]) (by simp [results, results124, go_sem, hmf0, hmf1, hmf2, hmf3, hmf4, hmf5]) rfl (RetSU.yes HF.out HCC.out (hsf.low oM) (hmf.low oM) hnf)
theorem slotCode_c (s k : Int) (w : World) (hE : Et w) : Calls Tryz.prog 53 #[.iface 159 (.agg #[ii s, ii k])] w fun e w' => e = .returned (ii k) /\ Nx w w' := by
 have b0 := Box.new w 159 #[ii 0, ii 0]
 have hx0 := (Nx.refl w).alloc (.cells #[ii 0, ii 0] 159)
 go_enter func53, ntmps53
 go_wp2_with fail
 generalize w.alloc (.cells #[ii 0, ii 0] 159) = W at *
 refine (as_hit s k w.heap.size _ _ _ (hE.nx hx0) b0).mono ?_
 rintro e w1 ⟨rfl, hrg, b1⟩
 have y1 := b1.c1
 go_wp2
 go_ret
 exact ⟨rfl, Rg.nx_of hx0 hrg nle⟩
def vU (u : U6) (A : Option Addr) (c : Nat) (A2 : Option Addr) (c2 : Nat) : Value := .agg #[ii u.1, ii u.2.1, ii u.2.2.1, ii u.2.2.2.1, sC A u.2.2.2.2.1.length c, sC A2 u.2.2.2.2.2.length c2]
def FitU (w : World) (lo : Nat) (u : U6) (A : Option Addr) (c : Nat) (A2 : Option Addr) : Prop := u.2.2.2.2.1.length <= c /\ SlI w lo A u.2.2.2.2.1 /\ SlM w lo A2 u.2.2.2.2.2
def slE (a k : Int) : Value := .iface 159 (.agg #[ii a, ii k])
def RetB2 (w : World) (o0 o1 : Option U6) (e : Ending) (w' : World) : Prop :=
 Nx w w' /\ (o0 = none -> e = .returned (.tuple #[.agg #[ii 0, ii 0, ii 0, ii 0, nsl, nsl], .agg #[ii 0, ii 0, ii 0, ii 0, nsl, nsl], slE 0 19])) /\ (∀ q, o0 = some q -> o1 = none -> e = .returned (.tuple #[.agg #[ii 0, ii 0, ii 0, ii 0, nsl, nsl], .agg #[ii 0, ii 0, ii 0, ii 0, nsl, nsl], slE 1 19])) /\
 ∀ q r, o0 = some q -> o1 = some r -> ∃ A c A2 c2 A3 c3 A4 c4, e = .returned (.tuple #[vU q A c A2 c2, vU r A3 c3 A4 c4, .nilIface]) /\ FitU w' w.heap.size q A c A2 /\ FitU w' w.heap.size r A3 c3 A4
theorem bothSupers_c (A A2 : Option Addr) (n c n2 c2 B : Nat) (ss : List BA) (ws : List (Int × BA)) (w : World) (a0 a1 : Addr) (h : Strs w B A n ss) (h2 : Wrs w B A2 n2 ws) (hB : B <= w.heap.size) (ha : 1 < n) (hn : n <= 1048576) (hn2 : n2 <= 1048576) (hr0 : (readP ss ws 0).size <= 65536) (hr1 : (readP ss ws 1).size <= 65536) (hE : Er w a0 a1) (hM : Mx w) :
 Calls Tryz.prog 121 #[.agg #[sC A n c, sC A2 n2 c2]] w (RetB2 w (rdU (readP ss ws 0)) (rdU (readP ss ws 1))) := by
 have b0 : Box (((w.alloc (.cells #[sC A n c, sC A2 n2 c2] 35)).alloc (.cells #[ii 0, ii 0, ii 0, ii 0, nsl, nsl] 26)).alloc (.cells #[ii 0, ii 0, ii 0, ii 0, nsl, nsl] 26)) (w.heap.size + 1) 26 #[ii 0, ii 0, ii 0, ii 0, nsl, nsl] := by have := Box.new (w.alloc (.cells #[sC A n c, sC A2 n2 c2] 35)) 26 #[ii 0, ii 0, ii 0, ii 0, nsl, nsl]; rw [World.size_alloc] at this; exact this.alloc _
 have d0 : Box (((w.alloc (.cells #[sC A n c, sC A2 n2 c2] 35)).alloc (.cells #[ii 0, ii 0, ii 0, ii 0, nsl, nsl] 26)).alloc (.cells #[ii 0, ii 0, ii 0, ii 0, nsl, nsl] 26)) (w.heap.size + 1 + 1) 26 #[ii 0, ii 0, ii 0, ii 0, nsl, nsl] := by have := Box.new ((w.alloc (.cells #[sC A n c, sC A2 n2 c2] 35)).alloc (.cells #[ii 0, ii 0, ii 0, ii 0, nsl, nsl] 26)) 26 #[ii 0, ii 0, ii 0, ii 0, nsl, nsl]; rwa [World.size_alloc, World.size_alloc] at this
 have e0 : Box (((w.alloc (.cells #[sC A n c, sC A2 n2 c2] 35)).alloc (.cells #[ii 0, ii 0, ii 0, ii 0, nsl, nsl] 26)).alloc (.cells #[ii 0, ii 0, ii 0, ii 0, nsl, nsl] 26)) w.heap.size 35 #[sC A n c, sC A2 n2 c2] := ((Box.new w _ _).alloc _).alloc _
 have hx0 := (((Nx.refl w).alloc (.cells #[sC A n c, sC A2 n2 c2] 35)).alloc (.cells #[ii 0, ii 0, ii 0, ii 0, nsl, nsl] 26)).alloc (.cells #[ii 0, ii 0, ii 0, ii 0, nsl, nsl] 26)
 go_enter func121, ntmps121
 go_wp2_with fail
 generalize ((w.alloc (.cells #[sC A n c, sC A2 n2 c2] 35)).alloc (.cells #[ii 0, ii 0, ii 0, ii 0, nsl, nsl] 26)).alloc (.cells #[ii 0, ii 0, ii 0, ii 0, nsl, nsl] 26) = W at *
 obtain ⟨gR, Hg⟩ := nM (w.heap.size + 1)
 obtain ⟨gS, HgS⟩ := nM (w.heap.size + 1 + 1)
 have hgR : w.heap.size <= gR := by have := Hg.out; omega
 have hgS : w.heap.size <= gS := by have := HgS.out; omega
 have hne : gR ≠ gS := by have := Hg.out; have := HgS.out; omega
 have hneD : w.heap.size ≠ gR := by have := Hg.out; omega
 rw [HgS.out, Hg.out]
 rw [HgS.out] at d0
 rw [Hg.out] at b0
 have hltR := b0.lt
 have hltS := d0.lt
 refine (superIn_c A A2 n c n2 c2 B 0 ss ws _ a0 a1 (h.below hx0 hB) (h2.below hx0 hB) (ntr hB hx0.size) oM hn hn2 hr0 (hE.nx hx0) (hM.nx hx0)).mono ?_
 rintro e w1 ⟨hnx1, h1, h2'⟩
 have b1 := b0.nx hnx1
 have d1 := d0.nx hnx1
 have e1 := e0.nx hnx1
 have hx1 := hx0.trans hnx1
 have hsz1 := hnx1.size
 have hlt := b1.lt
 have hlt2 := d1.lt
 clear b0 d0 e0 hx0 hnx1
 cases hu : rdU (readP ss ws 0) with
 | none =>
   obtain rfl := h1 hu
   have HU0 := qh hu
   clear h1 h2' hu
   obtain ⟨u0, u1, u2, u3, u4, u5⟩ := b1.d6
   have f0 := b1.frozen 0
   have f1 := b1.frozen 1
   have f2 := b1.frozen 2
   have f3 := b1.frozen 3
   have f4 := b1.frozen 4
   have f5 := b1.frozen 5
   obtain ⟨y0, y1, y2, y3, y4, y5⟩ := d1.d6
   have l0 := d1.frozen 0
   have l1 := d1.frozen 1
   have l2 := d1.frozen 2
   have l3 := d1.frozen 3
   have l4 := d1.frozen 4
   have l5 := d1.frozen 5
   go_wp2
   have qx := ((put6_box (put6_box b1 (ii 0) (ii 0) (ii 0) (ii 0) (nsl) (nsl)) (ii 0) (ii 0) (ii 0) (ii 0) (nsl) (nsl)).far6 hne (ii 0) (ii 0) (ii 0) (ii 0) (nsl) (nsl))
   have qy := (put6_box ((d1.far6 hne.symm (ii 0) (ii 0) (ii 0) (ii 0) (nsl) (nsl)).far6 hne.symm (ii 0) (ii 0) (ii 0) (ii 0) (nsl) (nsl)) (ii 0) (ii 0) (ii 0) (ii 0) (nsl) (nsl))
   have hnf := (put6_nx (put6_nx (put6_nx hx1 hgR (ii 0) (ii 0) (ii 0) (ii 0) (nsl) (nsl)) hgR (ii 0) (ii 0) (ii 0) (ii 0) (nsl) (nsl)) hgS (ii 0) (ii 0) (ii 0) (ii 0) (nsl) (nsl))
   change bodyPost _ _ _ _ _ (put6 (put6 (put6 w1 gR (ii 0) (ii 0) (ii 0) (ii 0) (nsl) (nsl)) gR (ii 0) (ii 0) (ii 0) (ii 0) (nsl) (nsl)) gS (ii 0) (ii 0) (ii 0) (ii 0) (nsl) (nsl))
   change Box (put6 (put6 (put6 w1 gR (ii 0) (ii 0) (ii 0) (ii 0) (nsl) (nsl)) gR (ii 0) (ii 0) (ii 0) (ii 0) (nsl) (nsl)) gS (ii 0) (ii 0) (ii 0) (ii 0) (nsl) (nsl)) _ _ _ at qx
   change Box (put6 (put6 (put6 w1 gR (ii 0) (ii 0) (ii 0) (ii 0) (nsl) (nsl)) gR (ii 0) (ii 0) (ii 0) (ii 0) (nsl) (nsl)) gS (ii 0) (ii 0) (ii 0) (ii 0) (nsl) (nsl)) _ _ _ at qy
   generalize (put6 (put6 (put6 w1 gR (ii 0) (ii 0) (ii 0) (ii 0) (nsl) (nsl)) gR (ii 0) (ii 0) (ii 0) (ii 0) (nsl) (nsl)) gS (ii 0) (ii 0) (ii 0) (ii 0) (nsl) (nsl)) = Wf at *
   obtain ⟨k0, k1, k2, k3, k4, k5⟩ := qx.d6
   obtain ⟨j0, j1, j2, j3, j4, j5⟩ := qy.d6
   exact bodyPost_ret (v := .tuple #[.agg #[ii 0, ii 0, ii 0, ii 0, nsl, nsl], .agg #[ii 0, ii 0, ii 0, ii 0, nsl, nsl], .iface 159 (.agg #[ii 0, ii 19])]) (by simp [results, results121, go_sem, k0, k1, k2, k3, k4, k5, j0, j1, j2, j3, j4, j5]) rfl ⟨hnf, (fun _ => rfl), (fun q h => by rw [HU0.out] at h; cases h), fun q r h => by rw [HU0.out] at h; cases h⟩
 | some u =>
   obtain ⟨g0, b0, p0, q0, xs0, ms0⟩ := u
   obtain ⟨Ax0, cx0, Am0, cm0, he, hcc, hS1, hM1⟩ := h2' _ hu
   replace he : e = .returned (.tuple #[.agg #[ii g0, ii b0, ii p0, ii q0, sC Ax0 xs0.length cx0, sC Am0 ms0.length cm0], .nilIface]) := he
   replace hS1 : SlI w1 W.heap.size Ax0 xs0 := hS1
   replace hM1 : SlM w1 W.heap.size Am0 ms0 := hM1
   replace hcc : xs0.length <= cx0 := hcc
   have HCC0 := qh hcc
   have HU0 := qh hu
   subst he
   clear h1 h2' hu hcc
   obtain ⟨z0, z1⟩ : w1.cell? ⟨w.heap.size, 0, none⟩ = some (sC A n c) /\ w1.cell? ⟨w.heap.size, 1, none⟩ = some (sC A2 n2 c2) := ⟨e1.c0, e1.c1⟩
   obtain ⟨u0, u1, u2, u3, u4, u5⟩ := b1.d6
   have f0 := b1.frozen 0
   have f1 := b1.frozen 1
   have f2 := b1.frozen 2
   have f3 := b1.frozen 3
   have f4 := b1.frozen 4
   have f5 := b1.frozen 5
   go_wp2_with fail
   have b2 := put6_box b1 (ii g0) (ii b0) (ii p0) (ii q0) (sC Ax0 xs0.length cx0) (sC Am0 ms0.length cm0)
   have d2 := d1.far6 hne.symm (ii g0) (ii b0) (ii p0) (ii q0) (sC Ax0 xs0.length cx0) (sC Am0 ms0.length cm0)
   have e2 := e1.far6 hneD (ii g0) (ii b0) (ii p0) (ii q0) (sC Ax0 xs0.length cx0) (sC Am0 ms0.length cm0)
   have hx2 := put6_nx hx1 hgR (ii g0) (ii b0) (ii p0) (ii q0) (sC Ax0 xs0.length cx0) (sC Am0 ms0.length cm0)
   have hS2 := hS1.pt6 hltR (ii g0) (ii b0) (ii p0) (ii q0) (sC Ax0 xs0.length cx0) (sC Am0 ms0.length cm0)
   have hM2 := hM1.pt6 hltR (ii g0) (ii b0) (ii p0) (ii q0) (sC Ax0 xs0.length cx0) (sC Am0 ms0.length cm0)
   have hsz2 : W.heap.size <= (put6 w1 gR (ii g0) (ii b0) (ii p0) (ii q0) (sC Ax0 xs0.length cx0) (sC Am0 ms0.length cm0)).heap.size := by simp [put6, World.setCell]; exact hsz1
   clear b1 d1 e1 hx1 hS1 hM1 z0 z1
   clear u0 u1 u2 u3 u4 u5 f0 f1 f2 f3 f4 f5
   change Calls _ _ _ (put6 w1 gR (ii g0) (ii b0) (ii p0) (ii q0) (sC Ax0 xs0.length cx0) (sC Am0 ms0.length cm0)) _
   generalize put6 w1 gR (ii g0) (ii b0) (ii p0) (ii q0) (sC Ax0 xs0.length cx0) (sC Am0 ms0.length cm0) = w2 at *
   refine (superIn_c A A2 n c n2 c2 B 1 ss ws _ a0 a1 (h.below hx2 hB) (h2.below hx2 hB) (ntr hB hx2.size) oM hn hn2 hr1 (hE.nx hx2) (hM.nx hx2)).mono ?_
   rintro e w3 ⟨hnx3, h1, h2'⟩
   have b3 := b2.nx hnx3
   have d3 := d2.nx hnx3
   have hx3 := hx2.trans hnx3
   have hS3 := hS2.nx hnx3
   have hM3 := hM2.nx hnx3
   have hltR2 := b2.lt
   have hltS2 := d2.lt
   clear b2 d2 e2 hx2 hS2 hM2
   cases hv : rdU (readP ss ws 1) with
   | none =>
     obtain rfl := h1 hv
     have HU1 := qh hv
     clear h1 h2' hv
     obtain ⟨u0, u1, u2, u3, u4, u5⟩ := b3.d6
     have f0 := b3.frozen 0
     have f1 := b3.frozen 1
     have f2 := b3.frozen 2
     have f3 := b3.frozen 3
     have f4 := b3.frozen 4
     have f5 := b3.frozen 5
     obtain ⟨y0, y1, y2, y3, y4, y5⟩ := d3.d6
     have l0 := d3.frozen 0
     have l1 := d3.frozen 1
     have l2 := d3.frozen 2
     have l3 := d3.frozen 3
     have l4 := d3.frozen 4
     have l5 := d3.frozen 5
     go_wp2
     have qx := ((put6_box (b3.far6 hne (ii 0) (ii 0) (ii 0) (ii 0) (nsl) (nsl)) (ii 0) (ii 0) (ii 0) (ii 0) (nsl) (nsl)).far6 hne (ii 0) (ii 0) (ii 0) (ii 0) (nsl) (nsl))
     have qy := (put6_box ((put6_box d3 (ii 0) (ii 0) (ii 0) (ii 0) (nsl) (nsl)).far6 hne.symm (ii 0) (ii 0) (ii 0) (ii 0) (nsl) (nsl)) (ii 0) (ii 0) (ii 0) (ii 0) (nsl) (nsl))
     have hnf := (put6_nx (put6_nx (put6_nx hx3 hgS (ii 0) (ii 0) (ii 0) (ii 0) (nsl) (nsl)) hgR (ii 0) (ii 0) (ii 0) (ii 0) (nsl) (nsl)) hgS (ii 0) (ii 0) (ii 0) (ii 0) (nsl) (nsl))
     change bodyPost _ _ _ _ _ (put6 (put6 (put6 w3 gS (ii 0) (ii 0) (ii 0) (ii 0) (nsl) (nsl)) gR (ii 0) (ii 0) (ii 0) (ii 0) (nsl) (nsl)) gS (ii 0) (ii 0) (ii 0) (ii 0) (nsl) (nsl))
     change Box (put6 (put6 (put6 w3 gS (ii 0) (ii 0) (ii 0) (ii 0) (nsl) (nsl)) gR (ii 0) (ii 0) (ii 0) (ii 0) (nsl) (nsl)) gS (ii 0) (ii 0) (ii 0) (ii 0) (nsl) (nsl)) _ _ _ at qx
     change Box (put6 (put6 (put6 w3 gS (ii 0) (ii 0) (ii 0) (ii 0) (nsl) (nsl)) gR (ii 0) (ii 0) (ii 0) (ii 0) (nsl) (nsl)) gS (ii 0) (ii 0) (ii 0) (ii 0) (nsl) (nsl)) _ _ _ at qy
     generalize (put6 (put6 (put6 w3 gS (ii 0) (ii 0) (ii 0) (ii 0) (nsl) (nsl)) gR (ii 0) (ii 0) (ii 0) (ii 0) (nsl) (nsl)) gS (ii 0) (ii 0) (ii 0) (ii 0) (nsl) (nsl)) = Wf at *
     obtain ⟨k0, k1, k2, k3, k4, k5⟩ := qx.d6
     obtain ⟨j0, j1, j2, j3, j4, j5⟩ := qy.d6
     exact bodyPost_ret (v := .tuple #[.agg #[ii 0, ii 0, ii 0, ii 0, nsl, nsl], .agg #[ii 0, ii 0, ii 0, ii 0, nsl, nsl], .iface 159 (.agg #[ii 1, ii 19])]) (by simp [results, results121, go_sem, k0, k1, k2, k3, k4, k5, j0, j1, j2, j3, j4, j5]) rfl ⟨hnf, (fun h => by rw [HU0.out] at h; cases h), (fun q _ _ => rfl), fun q r _ h => by rw [HU1.out] at h; cases h⟩
   | some u =>
     obtain ⟨g1, b1, p1, q1, xs1, ms1⟩ := u
     obtain ⟨Ax1, cx1, Am1, cm1, he, hcc, hS1, hM1⟩ := h2' _ hv
     replace he : e = .returned (.tuple #[.agg #[ii g1, ii b1, ii p1, ii q1, sC Ax1 xs1.length cx1, sC Am1 ms1.length cm1], .nilIface]) := he
     replace hS1 : SlI w3 w2.heap.size Ax1 xs1 := hS1
     replace hM1 : SlM w3 w2.heap.size Am1 ms1 := hM1
     replace hcc : xs1.length <= cx1 := hcc
     have HCC1 := qh hcc
     have HU1 := qh hv
     subst he
     clear h1 h2' hv hcc
     obtain ⟨y0, y1, y2, y3, y4, y5⟩ := d3.d6
     have l0 := d3.frozen 0
     have l1 := d3.frozen 1
     have l2 := d3.frozen 2
     have l3 := d3.frozen 3
     have l4 := d3.frozen 4
     have l5 := d3.frozen 5
     go_wp2_with fail
     have b4 := b3.far6 hne (ii g1) (ii b1) (ii p1) (ii q1) (sC Ax1 xs1.length cx1) (sC Am1 ms1.length cm1)
     have d4 := put6_box d3 (ii g1) (ii b1) (ii p1) (ii q1) (sC Ax1 xs1.length cx1) (sC Am1 ms1.length cm1)
     have hx4 := put6_nx hx3 hgS (ii g1) (ii b1) (ii p1) (ii q1) (sC Ax1 xs1.length cx1) (sC Am1 ms1.length cm1)
     have hS4 := hS3.pt6 hltS (ii g1) (ii b1) (ii p1) (ii q1) (sC Ax1 xs1.length cx1) (sC Am1 ms1.length cm1)
     have hM4 := hM3.pt6 hltS (ii g1) (ii b1) (ii p1) (ii q1) (sC Ax1 xs1.length cx1) (sC Am1 ms1.length cm1)
     have hT4 := hS1.pt6 hltS2 (ii g1) (ii b1) (ii p1) (ii q1) (sC Ax1 xs1.length cx1) (sC Am1 ms1.length cm1)
     have hN4 := hM1.pt6 hltS2 (ii g1) (ii b1) (ii p1) (ii q1) (sC Ax1 xs1.length cx1) (sC Am1 ms1.length cm1)
     clear b3 d3 hx3 hS3 hM3 hS1 hM1
     clear y0 y1 y2 y3 y4 y5 l0 l1 l2 l3 l4 l5
     change Code.wp _ _ _ _ (put6 w3 gS (ii g1) (ii b1) (ii p1) (ii q1) (sC Ax1 xs1.length cx1) (sC Am1 ms1.length cm1))
     generalize put6 w3 gS (ii g1) (ii b1) (ii p1) (ii q1) (sC Ax1 xs1.length cx1) (sC Am1 ms1.length cm1) = w4 at *
     obtain ⟨u0, u1, u2, u3, u4, u5⟩ := b4.d6
     have f0 := b4.frozen 0
     have f1 := b4.frozen 1
     have f2 := b4.frozen 2
     have f3 := b4.frozen 3
     have f4 := b4.frozen 4
     have f5 := b4.frozen 5
     obtain ⟨y0, y1, y2, y3, y4, y5⟩ := d4.d6
     have l0 := d4.frozen 0
     have l1 := d4.frozen 1
     have l2 := d4.frozen 2
     have l3 := d4.frozen 3
     have l4 := d4.frozen 4
     have l5 := d4.frozen 5
     have hlt4 := b4.lt
     have hlt5 := d4.lt
     refine wp_lexA (kf2 (true :: true :: ff :: [])) (fun w' => (CC w' gR 0 (ii g0) /\ CC w' gR 1 (ii b0) /\ CC w' gR 2 (ii p0) /\ CC w' gR 3 (ii q0) /\ CC w' gR 4 (sC Ax0 xs0.length cx0) /\ CC w' gR 5 (sC Am0 ms0.length cm0)) /\ (CC w' gS 0 (ii g1) /\ CC w' gS 1 (ii b1) /\ CC w' gS 2 (ii p1) /\ CC w' gS 3 (ii q1) /\ CC w' gS 4 (sC Ax1 xs1.length cx1) /\ CC w' gS 5 (sC Am1 ms1.length cm1))) (by exact ⟨b4.d6, d4.d6⟩) ?_
     refine hLr ?_
     refine hLc fun K hK => ?_
     go_simp
     refine hK.out _ _ (by exact ⟨((put6_box b4 (ii g0) (ii b0) (ii p0) (ii q0) (sC Ax0 xs0.length cx0) (sC Am0 ms0.length cm0)).drew).d6, ((d4.far6 hne.symm (ii g0) (ii b0) (ii p0) (ii q0) (sC Ax0 xs0.length cx0) (sC Am0 ms0.length cm0)).drew).d6⟩) ?_
     clear hK K
     refine nZ ?_
     refine hLc fun K hK => ?_
     go_simp
     refine hK.out _ _ (by exact ⟨(((put6_box b4 (ii g0) (ii b0) (ii p0) (ii q0) (sC Ax0 xs0.length cx0) (sC Am0 ms0.length cm0)).far6 hne (ii g1) (ii b1) (ii p1) (ii q1) (sC Ax1 xs1.length cx1) (sC Am1 ms1.length cm1)).drew).d6, ((put6_box (d4.far6 hne.symm (ii g0) (ii b0) (ii p0) (ii q0) (sC Ax0 xs0.length cx0) (sC Am0 ms0.length cm0)) (ii g1) (ii b1) (ii p1) (ii q1) (sC Ax1 xs1.length cx1) (sC Am1 ms1.length cm1)).drew).d6⟩) ?_
     clear hK K
     refine nZ ?_
     refine hLr ?_
     refine HL.done ?_
     clear u0 u1 u2 u3 u4 u5 f0 f1 f2 f3 f4 f5
     clear y0 y1 y2 y3 y4 y5 l0 l1 l2 l3 l4 l5
     go_wp2
     have qx := ((put6_box b4 (ii g0) (ii b0) (ii p0) (ii q0) (sC Ax0 xs0.length cx0) (sC Am0 ms0.length cm0)).far6 hne (ii g1) (ii b1) (ii p1) (ii q1) (sC Ax1 xs1.length cx1) (sC Am1 ms1.length cm1)).drew
     have qy := (put6_box (d4.far6 hne.symm (ii g0) (ii b0) (ii p0) (ii q0) (sC Ax0 xs0.length cx0) (sC Am0 ms0.length cm0)) (ii g1) (ii b1) (ii p1) (ii q1) (sC Ax1 xs1.length cx1) (sC Am1 ms1.length cm1)).drew
     have hnf := (put6_nx (put6_nx hx4 hgR (ii g0) (ii b0) (ii p0) (ii q0) (sC Ax0 xs0.length cx0) (sC Am0 ms0.length cm0)) hgS (ii g1) (ii b1) (ii p1) (ii q1) (sC Ax1 xs1.length cx1) (sC Am1 ms1.length cm1)).drew
     have hsA := (((hS4.pt6 hltR (ii g0) (ii b0) (ii p0) (ii q0) (sC Ax0 xs0.length cx0) (sC Am0 ms0.length cm0)).pt6 hltS (ii g1) (ii b1) (ii p1) (ii q1) (sC Ax1 xs1.length cx1) (sC Am1 ms1.length cm1)).nx (Nx.refl _).drew)
     change Sl (World.drew (put6 (put6 w4 gR (ii g0) (ii b0) (ii p0) (ii q0) (sC Ax0 xs0.length cx0) (sC Am0 ms0.length cm0)) gS (ii g1) (ii b1) (ii p1) (ii q1) (sC Ax1 xs1.length cx1) (sC Am1 ms1.length cm1))) _ _ _ _ _ at hsA
     have hsB := (((hM4.pt6 hltR (ii g0) (ii b0) (ii p0) (ii q0) (sC Ax0 xs0.length cx0) (sC Am0 ms0.length cm0)).pt6 hltS (ii g1) (ii b1) (ii p1) (ii q1) (sC Ax1 xs1.length cx1) (sC Am1 ms1.length cm1)).nx (Nx.refl _).drew)
     change Sl (World.drew (put6 (put6 w4 gR (ii g0) (ii b0) (ii p0) (ii q0) (sC Ax0 xs0.length cx0) (sC Am0 ms0.length cm0)) gS (ii g1) (ii b1) (ii p1) (ii q1) (sC Ax1 xs1.length cx1) (sC Am1 ms1.length cm1))) _ _ _ _ _ at hsB
     have hsC := (((hT4.pt6 hltR2 (ii g0) (ii b0) (ii p0) (ii q0) (sC Ax0 xs0.length cx0) (sC Am0 ms0.length cm0)).pt6 hltS2 (ii g1) (ii b1) (ii p1) (ii q1) (sC Ax1 xs1.length cx1) (sC Am1 ms1.length cm1)).nx (Nx.refl _).drew)
     change Sl (World.drew (put6 (put6 w4 gR (ii g0) (ii b0) (ii p0) (ii q0) (sC Ax0 xs0.length cx0) (sC Am0 ms0.length cm0)) gS (ii g1) (ii b1) (ii p1) (ii q1) (sC Ax1 xs1.length cx1) (sC Am1 ms1.length cm1))) _ _ _ _ _ at hsC
     have hsD := (((hN4.pt6 hltR2 (ii g0) (ii b0) (ii p0) (ii q0) (sC Ax0 xs0.length cx0) (sC Am0 ms0.length cm0)).pt6 hltS2 (ii g1) (ii b1) (ii p1) (ii q1) (sC Ax1 xs1.length cx1) (sC Am1 ms1.length cm1)).nx (Nx.refl _).drew)
     change Sl (World.drew (put6 (put6 w4 gR (ii g0) (ii b0) (ii p0) (ii q0) (sC Ax0 xs0.length cx0) (sC Am0 ms0.length cm0)) gS (ii g1) (ii b1) (ii p1) (ii q1) (sC Ax1 xs1.length cx1) (sC Am1 ms1.length cm1))) _ _ _ _ _ at hsD
     change bodyPost _ _ _ _ _ (World.drew (put6 (put6 w4 gR (ii g0) (ii b0) (ii p0) (ii q0) (sC Ax0 xs0.length cx0) (sC Am0 ms0.length cm0)) gS (ii g1) (ii b1) (ii p1) (ii q1) (sC Ax1 xs1.length cx1) (sC Am1 ms1.length cm1)))
     change Box (World.drew (put6 (put6 w4 gR (ii g0) (ii b0) (ii p0) (ii q0) (sC Ax0 xs0.length cx0) (sC Am0 ms0.length cm0)) gS (ii g1) (ii b1) (ii p1) (ii q1) (sC Ax1 xs1.length cx1) (sC Am1 ms1.length cm1))) _ _ _ at qx
     change Box (World.drew (put6 (put6 w4 gR (ii g0) (ii b0) (ii p0) (ii q0) (sC Ax0 xs0.length cx0) (sC Am0 ms0.length cm0)) gS (ii g1) (ii b1) (ii p1) (ii q1) (sC Ax1 xs1.length cx1) (sC Am1 ms1.length cm1))) _ _ _ at qy
     generalize (World.drew (put6 (put6 w4 gR (ii g0) (ii b0) (ii p0) (ii q0) (sC Ax0 xs0.length cx0) (sC Am0 ms0.length cm0)) gS (ii g1) (ii b1) (ii p1) (ii q1) (sC Ax1 xs1.length cx1) (sC Am1 ms1.length cm1))) = Wf at *
     obtain ⟨k0, k1, k2, k3, k4, k5⟩ := qx.d6
     obtain ⟨j0, j1, j2, j3, j4, j5⟩ := qy.d6
     exact bodyPost_ret (v := .tuple #[.agg #[ii g0, ii b0, ii p0, ii q0, sC Ax0 xs0.length cx0, sC Am0 ms0.length cm0], .agg #[ii g1, ii b1, ii p1, ii q1, sC Ax1 xs1.length cx1, sC Am1 ms1.length cm1], .nilIface]) (by simp [results, results121, go_sem, k0, k1, k2, k3, k4, k5, j0, j1, j2, j3, j4, j5]) rfl ⟨hnf, (fun h => by rw [HU0.out] at h; cases h), (fun q _ h => by rw [HU1.out] at h; cases h), fun q r hq hr => by rw [HU0.out] at hq; rw [HU1.out] at hr; cases hq; cases hr; exact ⟨_, _, _, _, _, _, _, _, rfl, ⟨HCC0.out, hsA.low (by have := HgS.out; omega), hsB.low (by have := HgS.out; omega)⟩, ⟨HCC1.out, hsC.low (by have := HgS.out; omega), hsD.low (by have := HgS.out; omega)⟩⟩⟩
def newU : Option U6 -> Option U6 -> Option (U6 × Int)
 | some a, some b => if a.1 < b.1 then some (b, 1) else some (a, 0)
 | some a, none => some (a, 0)
 | none, some b => some (b, 1)
 | none, none => none
def RetNS (w : World) (o : Option (U6 × Int)) (e : Ending) (w' : World) : Prop :=
 Nx w w' /\ (o = none -> e = .returned (.tuple #[.agg #[ii 0, ii 0, ii 0, ii 0, nsl, nsl], ii 1, slE 1 19])) /\ ∀ u s, o = some (u, s) -> ∃ A c A2 c2, e = .returned (.tuple #[vU u A c A2 c2, ii s, .nilIface]) /\ FitU w' w.heap.size u A c A2
theorem RetNS.no {w w' : World} {o : Option (U6 × Int)} (h : o = none) (hn : Nx w w') : RetNS w o (.returned (.tuple #[.agg #[ii 0, ii 0, ii 0, ii 0, nsl, nsl], ii 1, slE 1 19])) w' :=
 ⟨hn, fun _ => rfl, fun u s h2 => by rw [h] at h2; cases h2⟩
theorem RetNS.yes {w w' : World} {o : Option (U6 × Int)} {u : U6} {s : Int} {A A2 : Option Addr} {c c2 : Nat} (h : o = some (u, s)) (hc : u.2.2.2.2.1.length <= c) (hs : SlI w' w.heap.size A u.2.2.2.2.1) (hm : SlM w' w.heap.size A2 u.2.2.2.2.2) (hn : Nx w w') :
 RetNS w o (.returned (.tuple #[vU u A c A2 c2, ii s, .nilIface])) w' :=
 ⟨hn, (fun h2 => by rw [h] at h2; cases h2), fun u' s' h2 => by rw [h] at h2; cases h2; exact ⟨A, c, A2, c2, rfl, hc, hs, hm⟩⟩
theorem otherSlot_c (a : Int) (w : World) (h0 : 0 <= a) (h1 : a <= 1) : Calls Tryz.prog 123 #[ii a] w fun e w' => e = .returned (ii (1 - a)) /\ w = w' := by
 go_enter func123, ntmps123
 go_wp2
 go_ret
 exact ⟨rfl, rfl⟩
theorem newestSuper_c (A A2 : Option Addr) (n c n2 c2 B : Nat) (ss : List BA) (ws : List (Int × BA)) (w : World) (a0 a1 : Addr) (h : Strs w B A n ss) (h2 : Wrs w B A2 n2 ws) (hB : B <= w.heap.size) (ha : 1 < n) (hn : n <= 1048576) (hn2 : n2 <= 1048576) (hr0 : (readP ss ws 0).size <= 65536) (hr1 : (readP ss ws 1).size <= 65536) (hE : Er w a0 a1) (hM : Mx w) (hEt : Et w) :
 Calls Tryz.prog 52 #[.agg #[sC A n c, sC A2 n2 c2]] w (RetNS w (newU (rdU (readP ss ws 0)) (rdU (readP ss ws 1)))) := by
 have b0 : Box ((w.alloc (.cells #[sC A n c, sC A2 n2 c2] 35)).alloc (.cells #[ii 0, ii 0, ii 0, ii 0, nsl, nsl] 26)) (w.heap.size + 1) 26 #[ii 0, ii 0, ii 0, ii 0, nsl, nsl] := by have := Box.new (w.alloc (.cells #[sC A n c, sC A2 n2 c2] 35)) 26 #[ii 0, ii 0, ii 0, ii 0, nsl, nsl]; rwa [World.size_alloc] at this
 have e0 : Box ((w.alloc (.cells #[sC A n c, sC A2 n2 c2] 35)).alloc (.cells #[ii 0, ii 0, ii 0, ii 0, nsl, nsl] 26)) w.heap.size 35 #[sC A n c, sC A2 n2 c2] := (Box.new w _ _).alloc _
 have hx0 := ((Nx.refl w).alloc (.cells #[sC A n c, sC A2 n2 c2] 35)).alloc (.cells #[ii 0, ii 0, ii 0, ii 0, nsl, nsl] 26)
 go_enter func52, ntmps52
 go_wp2_with fail
 generalize (w.alloc (.cells #[sC A n c, sC A2 n2 c2] 35)).alloc (.cells #[ii 0, ii 0, ii 0, ii 0, nsl, nsl] 26) = W at *
 obtain ⟨gR, Hg⟩ := nM (w.heap.size + 1)
 have hgR : w.heap.size <= gR := by have := Hg.out; omega
 rw [Hg.out] at b0 ⊢
 have hltW := b0.lt
 refine (bothSupers_c A A2 n c n2 c2 B ss ws _ a0 a1 (h.below hx0 hB) (h2.below hx0 hB) (ntr hB hx0.size) ha hn hn2 hr0 hr1 (hE.nx hx0) (hM.nx hx0)).mono ?_
 rintro e w1 ⟨hnx1, h1, h2', h3'⟩
 have b1 := b0.nx hnx1
 have e1 := e0.nx hnx1
 have hx1 := hx0.trans hnx1
 have hlt1 := b1.lt
 have hltD := e1.lt
 clear b0 e0 hx0 hnx1
 unfold slE at h1 h2'
 cases hu : rdU (readP ss ws 0) with
 | none =>
   obtain rfl := h1 hu
   have HU0 := qh hu
   clear h1 h2' h3' hu
   go_wp2_with fail
   have bE := Box.new ((w1.alloc (.cells #[ii 0, ii 0, ii 0, ii 0, nsl, nsl] 26)).alloc (.cells #[ii 0, ii 0, ii 0, ii 0, nsl, nsl] 26)) 159 #[ii 0, ii 0]
   have hx3 := (((hx1.alloc (.cells #[ii 0, ii 0, ii 0, ii 0, nsl, nsl] 26)).alloc (.cells #[ii 0, ii 0, ii 0, ii 0, nsl, nsl] 26)).alloc (.cells #[ii 0, ii 0] 159))
   have b3 := (((b1.alloc (.cells #[ii 0, ii 0, ii 0, ii 0, nsl, nsl] 26)).alloc (.cells #[ii 0, ii 0, ii 0, ii 0, nsl, nsl] 26)).alloc (.cells #[ii 0, ii 0] 159))
   have e3 := (((e1.alloc (.cells #[ii 0, ii 0, ii 0, ii 0, nsl, nsl] 26)).alloc (.cells #[ii 0, ii 0, ii 0, ii 0, nsl, nsl] 26)).alloc (.cells #[ii 0, ii 0] 159))
   simp only [World.size_alloc] at bE
   change Calls _ _ _ (((w1.alloc (.cells #[ii 0, ii 0, ii 0, ii 0, nsl, nsl] 26)).alloc (.cells #[ii 0, ii 0, ii 0, ii 0, nsl, nsl] 26)).alloc (.cells #[ii 0, ii 0] 159)) _
   generalize (((w1.alloc (.cells #[ii 0, ii 0, ii 0, ii 0, nsl, nsl] 26)).alloc (.cells #[ii 0, ii 0, ii 0, ii 0, nsl, nsl] 26)).alloc (.cells #[ii 0, ii 0] 159)) = w3 at *
   obtain ⟨gE, HgE⟩ := nM (w1.heap.size + 1 + 1)
   rw [HgE.out] at bE ⊢
   have hgE : gR < gE := by have := HgE.out; omega
   have hgE2 : w.heap.size < gE := oM
   refine (as_hit 0 19 gE _ _ _ (hEt.nx hx3) bE).mono ?_
   rintro e w4 ⟨rfl, hrg, bF⟩
   have b4 := b3.rg hrg (.inl hgE)
   have e4 := e3.rg hrg (.inl hgE2)
   have hx4 := Rg.nx_of hx3 hrg oM
   have y0 := bF.c0
   have z0 := e4.c0
   have z1 := e4.c1
   clear b3 e3 hx3 bE
   go_wp2_with (go_at_call 123; refine (otherSlot_c 0 _ oM oM).mono ?_; rintro e w' ⟨rfl, rfl⟩)
   refine (superIn_c A A2 n c n2 c2 B 1 ss ws _ a0 a1 (h.below hx4 hB) (h2.below hx4 hB) (ntr hB hx4.size) oM hn hn2 hr1 (hE.nx hx4) (hM.nx hx4)).mono ?_
   rintro e w5 ⟨hnx5, h1, h2'⟩
   have b5 := b4.nx hnx5
   have hx5 := hx4.trans hnx5
   have hlt5 := b5.lt
   have hlt4 := b4.lt
   clear b4 e4 hx4 bF y0 z0 z1
   cases hv : rdU (readP ss ws 1) with
   | none =>
     obtain rfl := h1 hv
     have HN : Hid (newU (rdU (readP ss ws 0)) (rdU (readP ss ws 1)) = none) := qh (by rw [HU0.out, hv]; rfl)
     clear h1 h2' hv
     obtain ⟨u0, u1, u2, u3, u4, u5⟩ := b5.d6
     have f0 := b5.frozen 0
     have f1 := b5.frozen 1
     have f2 := b5.frozen 2
     have f3 := b5.frozen 3
     have f4 := b5.frozen 4
     have f5 := b5.frozen 5
     go_wp2
     have qx := ((put6_box b5 (ii 0) (ii 0) (ii 0) (ii 0) (nsl) (nsl)).alloc (.cells #[ii 0, ii 0, ii 0, ii 0, nsl, nsl] 26))
     have hnf := ((put6_nx hx5 (hgR) (ii 0) (ii 0) (ii 0) (ii 0) (nsl) (nsl)).alloc (.cells #[ii 0, ii 0, ii 0, ii 0, nsl, nsl] 26))
     change bodyPost _ _ _ _ _ (World.alloc (put6 w5 gR (ii 0) (ii 0) (ii 0) (ii 0) (nsl) (nsl)) (.cells #[ii 0, ii 0, ii 0, ii 0, nsl, nsl] 26))
     change Box (World.alloc (put6 w5 gR (ii 0) (ii 0) (ii 0) (ii 0) (nsl) (nsl)) (.cells #[ii 0, ii 0, ii 0, ii 0, nsl, nsl] 26)) _ _ _ at qx
     generalize World.alloc (put6 w5 gR (ii 0) (ii 0) (ii 0) (ii 0) (nsl) (nsl)) (.cells #[ii 0, ii 0, ii 0, ii 0, nsl, nsl] 26) = Wf at *
     obtain ⟨cq0, cq1, cq2, cq3, cq4, cq5⟩ := qx.d6
     exact bodyPost_ret (v := .tuple #[.agg #[ii 0, ii 0, ii 0, ii 0, nsl, nsl], ii 1, .iface 159 (.agg #[ii 1, ii 19])]) (by simp [results, results52, go_sem, cq0, cq1, cq2, cq3, cq4, cq5]) rfl (RetNS.no HN.out hnf)
   | some u1 =>
     have HU1 := qh hv
     have HN : Hid (newU (rdU (readP ss ws 0)) (rdU (readP ss ws 1)) = some (u1, 1)) := qh (by rw [HU0.out, hv]; rfl)
     clear hv
     obtain ⟨g1, b1, p1, q1, xs1, ms1⟩ := u1
     obtain ⟨Ax1, cx1, Am1, cm1, he, hcc, hS1, hM1⟩ := h2' _ HU1.out
     replace he : e = .returned (.tuple #[.agg #[ii g1, ii b1, ii p1, ii q1, sC Ax1 xs1.length cx1, sC Am1 ms1.length cm1], .nilIface]) := he
     replace hS1 : SlI w5 w4.heap.size Ax1 xs1 := hS1
     replace hM1 : SlM w5 w4.heap.size Am1 ms1 := hM1
     replace hcc : xs1.length <= cx1 := hcc
     have HCC := qh hcc
     subst he
     clear h1 h2' hcc
     obtain ⟨u0, u1, u2, u3, u4, u5⟩ := b5.d6
     have f0 := b5.frozen 0
     have f1 := b5.frozen 1
     have f2 := b5.frozen 2
     have f3 := b5.frozen 3
     have f4 := b5.frozen 4
     have f5 := b5.frozen 5
     go_wp2
     have qx := ((put6_box b5 (ii g1) (ii b1) (ii p1) (ii q1) (sC Ax1 xs1.length cx1) (sC Am1 ms1.length cm1)).alloc (.cells #[ii g1, ii b1, ii p1, ii q1, sC Ax1 xs1.length cx1, sC Am1 ms1.length cm1] 26))
     have hnf := ((put6_nx hx5 (hgR) (ii g1) (ii b1) (ii p1) (ii q1) (sC Ax1 xs1.length cx1) (sC Am1 ms1.length cm1)).alloc (.cells #[ii g1, ii b1, ii p1, ii q1, sC Ax1 xs1.length cx1, sC Am1 ms1.length cm1] 26))
     have hsf := ((hS1.pt6 hlt4 (ii g1) (ii b1) (ii p1) (ii q1) (sC Ax1 xs1.length cx1) (sC Am1 ms1.length cm1)).nx ((Nx.refl _).alloc (.cells #[ii g1, ii b1, ii p1, ii q1, sC Ax1 xs1.length cx1, sC Am1 ms1.length cm1] 26)))
     change Sl (World.alloc (put6 w5 gR (ii g1) (ii b1) (ii p1) (ii q1) (sC Ax1 xs1.length cx1) (sC Am1 ms1.length cm1)) (.cells #[ii g1, ii b1, ii p1, ii q1, sC Ax1 xs1.length cx1, sC Am1 ms1.length cm1] 26)) _ _ _ _ _ at hsf
     have hmf := ((hM1.pt6 hlt4 (ii g1) (ii b1) (ii p1) (ii q1) (sC Ax1 xs1.length cx1) (sC Am1 ms1.length cm1)).nx ((Nx.refl _).alloc (.cells #[ii g1, ii b1, ii p1, ii q1, sC Ax1 xs1.length cx1, sC Am1 ms1.length cm1] 26)))
     change Sl (World.alloc (put6 w5 gR (ii g1) (ii b1) (ii p1) (ii q1) (sC Ax1 xs1.length cx1) (sC Am1 ms1.length cm1)) (.cells #[ii g1, ii b1, ii p1, ii q1, sC Ax1 xs1.length cx1, sC Am1 ms1.length cm1] 26)) _ _ _ _ _ at hmf
     change bodyPost _ _ _ _ _ (World.alloc (put6 w5 gR (ii g1) (ii b1) (ii p1) (ii q1) (sC Ax1 xs1.length cx1) (sC Am1 ms1.length cm1)) (.cells #[ii g1, ii b1, ii p1, ii q1, sC Ax1 xs1.length cx1, sC Am1 ms1.length cm1] 26))
     change Box (World.alloc (put6 w5 gR (ii g1) (ii b1) (ii p1) (ii q1) (sC Ax1 xs1.length cx1) (sC Am1 ms1.length cm1)) (.cells #[ii g1, ii b1, ii p1, ii q1, sC Ax1 xs1.length cx1, sC Am1 ms1.length cm1] 26)) _ _ _ at qx
     generalize World.alloc (put6 w5 gR (ii g1) (ii b1) (ii p1) (ii q1) (sC Ax1 xs1.length cx1) (sC Am1 ms1.length cm1)) (.cells #[ii g1, ii b1, ii p1, ii q1, sC Ax1 xs1.length cx1, sC Am1 ms1.length cm1] 26) = Wf at *
     obtain ⟨hmf0, hmf1, hmf2, hmf3, hmf4, hmf5⟩ := qx.d6
     exact bodyPost_ret (v := .tuple #[.agg #[ii g1, ii b1, ii p1, ii q1, sC Ax1 xs1.length cx1, sC Am1 ms1.length cm1], ii 1, .nilIface]) (by simp [results, results52, go_sem, hmf0, hmf1, hmf2, hmf3, hmf4, hmf5]) rfl (RetNS.yes (u := (g1, b1, p1, q1, xs1, ms1)) HN.out HCC.out (hsf.low oM) (hmf.low oM) hnf)
 | some u0 =>
   have HU0 := qh hu
   cases hv : rdU (readP ss ws 1) with
   | none =>
     obtain rfl := h2' _ hu hv
     have HN : Hid (newU (rdU (readP ss ws 0)) (rdU (readP ss ws 1)) = some (u0, 0)) := qh (by rw [HU0.out, hv]; rfl)
     clear h1 h2' h3' hu hv
     go_wp2_with fail
     have bE := Box.new ((w1.alloc (.cells #[ii 0, ii 0, ii 0, ii 0, nsl, nsl] 26)).alloc (.cells #[ii 0, ii 0, ii 0, ii 0, nsl, nsl] 26)) 159 #[ii 0, ii 0]
     have hx3 := (((hx1.alloc (.cells #[ii 0, ii 0, ii 0, ii 0, nsl, nsl] 26)).alloc (.cells #[ii 0, ii 0, ii 0, ii 0, nsl, nsl] 26)).alloc (.cells #[ii 0, ii 0] 159))
     have b3 := (((b1.alloc (.cells #[ii 0, ii 0, ii 0, ii 0, nsl, nsl] 26)).alloc (.cells #[ii 0, ii 0, ii 0, ii 0, nsl, nsl] 26)).alloc (.cells #[ii 0, ii 0] 159))
     have e3 := (((e1.alloc (.cells #[ii 0, ii 0, ii 0, ii 0, nsl, nsl] 26)).alloc (.cells #[ii 0, ii 0, ii 0, ii 0, nsl, nsl] 26)).alloc (.cells #[ii 0, ii 0] 159))
     simp only [World.size_alloc] at bE
     change Calls _ _ _ (((w1.alloc (.cells #[ii 0, ii 0, ii 0, ii 0, nsl, nsl] 26)).alloc (.cells #[ii 0, ii 0, ii 0, ii 0, nsl, nsl] 26)).alloc (.cells #[ii 0, ii 0] 159)) _
     generalize (((w1.alloc (.cells #[ii 0, ii 0, ii 0, ii 0, nsl, nsl] 26)).alloc (.cells #[ii 0, ii 0, ii 0, ii 0, nsl, nsl] 26)).alloc (.cells #[ii 0, ii 0] 159)) = w3 at *
     obtain ⟨gE, HgE⟩ := nM (w1.heap.size + 1 + 1)
     rw [HgE.out] at bE ⊢
     have hgE : gR < gE := by have := HgE.out; omega
     have hgE2 : w.heap.size < gE := oM
     refine (as_hit 1 19 gE _ _ _ (hEt.nx hx3) bE).mono ?_
     rintro e w4 ⟨rfl, hrg, bF⟩
     have b4 := b3.rg hrg (.inl hgE)
     have e4 := e3.rg hrg (.inl hgE2)
     have hx4 := Rg.nx_of hx3 hrg oM
     have y0 := bF.c0
     have z0 := e4.c0
     have z1 := e4.c1
     clear b3 e3 hx3 bE
     go_wp2_with (go_at_call 123; refine (otherSlot_c 1 _ oM oM).mono ?_; rintro e w' ⟨rfl, rfl⟩)
     refine (superIn_c A A2 n c n2 c2 B 0 ss ws _ a0 a1 (h.below hx4 hB) (h2.below hx4 hB) (ntr hB hx4.size) oM hn hn2 hr0 (hE.nx hx4) (hM.nx hx4)).mono ?_
     rintro e w5 ⟨hnx5, h1, h2'⟩
     have b5 := b4.nx hnx5
     have hx5 := hx4.trans hnx5
     have hlt5 := b5.lt
     have hlt4 := b4.lt
     clear b4 e4 hx4 bF y0 z0 z1
     obtain ⟨g0, b0, p0, q0, xs0, ms0⟩ := u0
     obtain ⟨Ax0, cx0, Am0, cm0, he, hcc, hS1, hM1⟩ := h2' _ HU0.out
     replace he : e = .returned (.tuple #[.agg #[ii g0, ii b0, ii p0, ii q0, sC Ax0 xs0.length cx0, sC Am0 ms0.length cm0], .nilIface]) := he
     replace hS1 : SlI w5 w4.heap.size Ax0 xs0 := hS1
     replace hM1 : SlM w5 w4.heap.size Am0 ms0 := hM1
     replace hcc : xs0.length <= cx0 := hcc
     have HCC := qh hcc
     subst he
     clear h1 h2' hcc
     obtain ⟨u0, u1, u2, u3, u4, u5⟩ := b5.d6
     have f0 := b5.frozen 0
     have f1 := b5.frozen 1
     have f2 := b5.frozen 2
     have f3 := b5.frozen 3
     have f4 := b5.frozen 4
     have f5 := b5.frozen 5
     go_wp2
     have qx := ((put6_box b5 (ii g0) (ii b0) (ii p0) (ii q0) (sC Ax0 xs0.length cx0) (sC Am0 ms0.length cm0)).alloc (.cells #[ii g0, ii b0, ii p0, ii q0, sC Ax0 xs0.length cx0, sC Am0 ms0.length cm0] 26))
     have hnf := ((put6_nx hx5 (hgR) (ii g0) (ii b0) (ii p0) (ii q0) (sC Ax0 xs0.length cx0) (sC Am0 ms0.length cm0)).alloc (.cells #[ii g0, ii b0, ii p0, ii q0, sC Ax0 xs0.length cx0, sC Am0 ms0.length cm0] 26))
     have hsf := ((hS1.pt6 hlt4 (ii g0) (ii b0) (ii p0) (ii q0) (sC Ax0 xs0.length cx0) (sC Am0 ms0.length cm0)).nx ((Nx.refl _).alloc (.cells #[ii g0, ii b0, ii p0, ii q0, sC Ax0 xs0.length cx0, sC Am0 ms0.length cm0] 26)))
     change Sl (World.alloc (put6 w5 gR (ii g0) (ii b0) (ii p0) (ii q0) (sC Ax0 xs0.length cx0) (sC Am0 ms0.length cm0)) (.cells #[ii g0, ii b0, ii p0, ii q0, sC Ax0 xs0.length cx0, sC Am0 ms0.length cm0] 26)) _ _ _ _ _ at hsf
     have hmf := ((hM1.pt6 hlt4 (ii g0) (ii b0) (ii p0) (ii q0) (sC Ax0 xs0.length cx0) (sC Am0 ms0.length cm0)).nx ((Nx.refl _).alloc (.cells #[ii g0, ii b0, ii p0, ii q0, sC Ax0 xs0.length cx0, sC Am0 ms0.length cm0] 26)))
     change Sl (World.alloc (put6 w5 gR (ii g0) (ii b0) (ii p0) (ii q0) (sC Ax0 xs0.length cx0) (sC Am0 ms0.length cm0)) (.cells #[ii g0, ii b0, ii p0, ii q0, sC Ax0 xs0.length cx0, sC Am0 ms0.length cm0] 26)) _ _ _ _ _ at hmf
     change bodyPost _ _ _ _ _ (World.alloc (put6 w5 gR (ii g0) (ii b0) (ii p0) (ii q0) (sC Ax0 xs0.length cx0) (sC Am0 ms0.length cm0)) (.cells #[ii g0, ii b0, ii p0, ii q0, sC Ax0 xs0.length cx0, sC Am0 ms0.length cm0] 26))
     change Box (World.alloc (put6 w5 gR (ii g0) (ii b0) (ii p0) (ii q0) (sC Ax0 xs0.length cx0) (sC Am0 ms0.length cm0)) (.cells #[ii g0, ii b0, ii p0, ii q0, sC Ax0 xs0.length cx0, sC Am0 ms0.length cm0] 26)) _ _ _ at qx
     generalize World.alloc (put6 w5 gR (ii g0) (ii b0) (ii p0) (ii q0) (sC Ax0 xs0.length cx0) (sC Am0 ms0.length cm0)) (.cells #[ii g0, ii b0, ii p0, ii q0, sC Ax0 xs0.length cx0, sC Am0 ms0.length cm0] 26) = Wf at *
     obtain ⟨hmf0, hmf1, hmf2, hmf3, hmf4, hmf5⟩ := qx.d6
     exact bodyPost_ret (v := .tuple #[.agg #[ii g0, ii b0, ii p0, ii q0, sC Ax0 xs0.length cx0, sC Am0 ms0.length cm0], ii 0, .nilIface]) (by simp [results, results52, go_sem, hmf0, hmf1, hmf2, hmf3, hmf4, hmf5]) rfl (RetNS.yes (u := (g0, b0, p0, q0, xs0, ms0)) HN.out HCC.out (hsf.low oM) (hmf.low oM) hnf)
   | some u1 =>
     have bR1 := b1
     obtain ⟨g0, b0, p0, q0, xs0, ms0⟩ := u0
     obtain ⟨g1, b1, p1, q1, xs1, ms1⟩ := u1
     obtain ⟨Ax0, cx0, Am0, cm0, Ax1, cx1, Am1, cm1, he, ⟨hc0, hS0, hM0⟩, ⟨hc1, hS1, hM1⟩⟩ := h3' _ _ hu hv
     have HU1 := qh hv
     unfold vU at he
     replace hS0 : SlI w1 W.heap.size Ax0 xs0 := hS0
     replace hM0 : SlM w1 W.heap.size Am0 ms0 := hM0
     replace hS1 : SlI w1 W.heap.size Ax1 xs1 := hS1
     replace hM1 : SlM w1 W.heap.size Am1 ms1 := hM1
     have HCC0 : Hid (xs0.length <= cx0) := qh hc0
     have HCC1 : Hid (xs1.length <= cx1) := qh hc1
     replace he : e = .returned (.tuple #[.agg #[ii g0, ii b0, ii p0, ii q0, sC Ax0 xs0.length cx0, sC Am0 ms0.length cm0], .agg #[ii g1, ii b1, ii p1, ii q1, sC Ax1 xs1.length cx1, sC Am1 ms1.length cm1], .nilIface]) := he
     subst he
     clear h1 h2' h3' hu hv hc0 hc1
     go_wp2_with fail
     have hz3 := ((((Nx.refl w1).alloc (.cells #[ii g0, ii b0, ii p0, ii q0, sC Ax0 xs0.length cx0, sC Am0 ms0.length cm0] 26)).alloc (.cells #[ii g1, ii b1, ii p1, ii q1, sC Ax1 xs1.length cx1, sC Am1 ms1.length cm1] 26)).alloc (.cells #[ii 0, ii 0] 159))
     have b3 := bR1.nx hz3
     have hx3 := hx1.trans hz3
     have hS0c := hS0.nx hz3
     have hM0c := hM0.nx hz3
     have hS1c := hS1.nx hz3
     have hM1c := hM1.nx hz3
     have bA := ((Box.new w1 26 #[ii g0, ii b0, ii p0, ii q0, sC Ax0 xs0.length cx0, sC Am0 ms0.length cm0]).alloc (.cells #[ii g1, ii b1, ii p1, ii q1, sC Ax1 xs1.length cx1, sC Am1 ms1.length cm1] 26)).alloc (.cells #[ii 0, ii 0] 159)
     have bB : Box (((w1.alloc (.cells #[ii g0, ii b0, ii p0, ii q0, sC Ax0 xs0.length cx0, sC Am0 ms0.length cm0] 26)).alloc (.cells #[ii g1, ii b1, ii p1, ii q1, sC Ax1 xs1.length cx1, sC Am1 ms1.length cm1] 26)).alloc (.cells #[ii 0, ii 0] 159)) (w1.heap.size + 1) 26 #[ii g1, ii b1, ii p1, ii q1, sC Ax1 xs1.length cx1, sC Am1 ms1.length cm1] := by have := (Box.new (w1.alloc (.cells #[ii g0, ii b0, ii p0, ii q0, sC Ax0 xs0.length cx0, sC Am0 ms0.length cm0] 26)) 26 #[ii g1, ii b1, ii p1, ii q1, sC Ax1 xs1.length cx1, sC Am1 ms1.length cm1]).alloc (.cells #[ii 0, ii 0] 159); rwa [World.size_alloc] at this
     change Calls _ _ _ (((w1.alloc (.cells #[ii g0, ii b0, ii p0, ii q0, sC Ax0 xs0.length cx0, sC Am0 ms0.length cm0] 26)).alloc (.cells #[ii g1, ii b1, ii p1, ii q1, sC Ax1 xs1.length cx1, sC Am1 ms1.length cm1] 26)).alloc (.cells #[ii 0, ii 0] 159)) _
     generalize (((w1.alloc (.cells #[ii g0, ii b0, ii p0, ii q0, sC Ax0 xs0.length cx0, sC Am0 ms0.length cm0] 26)).alloc (.cells #[ii g1, ii b1, ii p1, ii q1, sC Ax1 xs1.length cx1, sC Am1 ms1.length cm1] 26)).alloc (.cells #[ii 0, ii 0] 159)) = w3 at *
     refine (as_nil _ _).mono ?_
     rintro e w' ⟨rfl, hw'⟩
     rw [hw']
     clear hw'
     obtain ⟨m0, m1, m2, m3, m4, m5⟩ := bA.d6
     obtain ⟨r0, r1, r2, r3, r4, r5⟩ := bB.d6
     have hltA := bA.lt
     have hltB := bB.lt
     have hlt3 := b3.lt
     by_cases hgt : g0 < g1
     . have hd : decide (g0 < g1) = true := decide_eq_true hgt
       have HN : Hid (newU (rdU (readP ss ws 0)) (rdU (readP ss ws 1)) = some ((g1, b1, p1, q1, xs1, ms1), 1)) := qh (by rw [HU0.out, HU1.out]; show (if g0 < g1 then _ else _) = _; rw [if_pos hgt])
       clear hgt
       obtain ⟨u0, u1, u2, u3, u4, u5⟩ := b3.d6
       have f0 := b3.frozen 0
       have f1 := b3.frozen 1
       have f2 := b3.frozen 2
       have f3 := b3.frozen 3
       have f4 := b3.frozen 4
       have f5 := b3.frozen 5
       go_wp2
       have qx := (put6_box b3 (ii g1) (ii b1) (ii p1) (ii q1) (sC Ax1 xs1.length cx1) (sC Am1 ms1.length cm1))
       have hnf := (put6_nx hx3 (hgR) (ii g1) (ii b1) (ii p1) (ii q1) (sC Ax1 xs1.length cx1) (sC Am1 ms1.length cm1))
       have hsf := (hS1c.pt6 hltW (ii g1) (ii b1) (ii p1) (ii q1) (sC Ax1 xs1.length cx1) (sC Am1 ms1.length cm1))
       change Sl (put6 w3 gR (ii g1) (ii b1) (ii p1) (ii q1) (sC Ax1 xs1.length cx1) (sC Am1 ms1.length cm1)) _ _ _ _ _ at hsf
       have hmf := (hM1c.pt6 hltW (ii g1) (ii b1) (ii p1) (ii q1) (sC Ax1 xs1.length cx1) (sC Am1 ms1.length cm1))
       change Sl (put6 w3 gR (ii g1) (ii b1) (ii p1) (ii q1) (sC Ax1 xs1.length cx1) (sC Am1 ms1.length cm1)) _ _ _ _ _ at hmf
       change bodyPost _ _ _ _ _ (put6 w3 gR (ii g1) (ii b1) (ii p1) (ii q1) (sC Ax1 xs1.length cx1) (sC Am1 ms1.length cm1))
       change Box (put6 w3 gR (ii g1) (ii b1) (ii p1) (ii q1) (sC Ax1 xs1.length cx1) (sC Am1 ms1.length cm1)) _ _ _ at qx
       generalize put6 w3 gR (ii g1) (ii b1) (ii p1) (ii q1) (sC Ax1 xs1.length cx1) (sC Am1 ms1.length cm1) = Wf at *
       obtain ⟨hmf0, hmf1, hmf2, hmf3, hmf4, hmf5⟩ := qx.d6
       exact bodyPost_ret (v := .tuple #[.agg #[ii g1, ii b1, ii p1, ii q1, sC Ax1 xs1.length cx1, sC Am1 ms1.length cm1], ii 1, .nilIface]) (by simp [results, results52, go_sem, hmf0, hmf1, hmf2, hmf3, hmf4, hmf5]) rfl (RetNS.yes (u := (g1, b1, p1, q1, xs1, ms1)) HN.out HCC1.out (hsf.low oM) (hmf.low oM) hnf)
     . have hd : decide (g0 < g1) = false := decide_eq_false hgt
       have HN : Hid (newU (rdU (readP ss ws 0)) (rdU (readP ss ws 1)) = some ((g0, b0, p0, q0, xs0, ms0), 0)) := qh (by rw [HU0.out, HU1.out]; show (if g0 < g1 then _ else _) = _; rw [if_neg hgt])
       clear hgt
       obtain ⟨u0, u1, u2, u3, u4, u5⟩ := b3.d6
       have f0 := b3.frozen 0
       have f1 := b3.frozen 1
       have f2 := b3.frozen 2
       have f3 := b3.frozen 3
       have f4 := b3.frozen 4
       have f5 := b3.frozen 5
       go_wp2
       have qx := (put6_box b3 (ii g0) (ii b0) (ii p0) (ii q0) (sC Ax0 xs0.length cx0) (sC Am0 ms0.length cm0))
       have hnf := (put6_nx hx3 (hgR) (ii g0) (ii b0) (ii p0) (ii q0) (sC Ax0 xs0.length cx0) (sC Am0 ms0.length cm0))
       have hsf := (hS0c.pt6 hltW (ii g0) (ii b0) (ii p0) (ii q0) (sC Ax0 xs0.length cx0) (sC Am0 ms0.length cm0))
       change Sl (put6 w3 gR (ii g0) (ii b0) (ii p0) (ii q0) (sC Ax0 xs0.length cx0) (sC Am0 ms0.length cm0)) _ _ _ _ _ at hsf
       have hmf := (hM0c.pt6 hltW (ii g0) (ii b0) (ii p0) (ii q0) (sC Ax0 xs0.length cx0) (sC Am0 ms0.length cm0))
       change Sl (put6 w3 gR (ii g0) (ii b0) (ii p0) (ii q0) (sC Ax0 xs0.length cx0) (sC Am0 ms0.length cm0)) _ _ _ _ _ at hmf
       change bodyPost _ _ _ _ _ (put6 w3 gR (ii g0) (ii b0) (ii p0) (ii q0) (sC Ax0 xs0.length cx0) (sC Am0 ms0.length cm0))
       change Box (put6 w3 gR (ii g0) (ii b0) (ii p0) (ii q0) (sC Ax0 xs0.length cx0) (sC Am0 ms0.length cm0)) _ _ _ at qx
       generalize put6 w3 gR (ii g0) (ii b0) (ii p0) (ii q0) (sC Ax0 xs0.length cx0) (sC Am0 ms0.length cm0) = Wf at *
       obtain ⟨hmf0, hmf1, hmf2, hmf3, hmf4, hmf5⟩ := qx.d6
       exact bodyPost_ret (v := .tuple #[.agg #[ii g0, ii b0, ii p0, ii q0, sC Ax0 xs0.length cx0, sC Am0 ms0.length cm0], ii 0, .nilIface]) (by simp [results, results52, go_sem, hmf0, hmf1, hmf2, hmf3, hmf4, hmf5]) rfl (RetNS.yes (u := (g0, b0, p0, q0, xs0, ms0)) HN.out HCC0.out (hsf.low oM) (hmf.low oM) hnf)
def RetLN (w : World) (o : Option (U6 × Int)) (e : Ending) (w' : World) : Prop :=
 Nx w w' /\ (o = none -> e = .returned (.tuple #[.agg #[ii 0, ii 0, ii 0, ii 0, nsl, nsl], ii (-1)])) /\ ∀ u s, o = some (u, s) -> ∃ A c A2 c2, e = .returned (.tuple #[vU u A c A2 c2, ii s]) /\ FitU w' w.heap.size u A c A2
theorem RetLN.no {w w' : World} {o : Option (U6 × Int)} (h : o = none) (hn : Nx w w') : RetLN w o (.returned (.tuple #[.agg #[ii 0, ii 0, ii 0, ii 0, nsl, nsl], ii (-1)])) w' :=
 ⟨hn, fun _ => rfl, fun u s h2 => by rw [h] at h2; cases h2⟩
theorem RetLN.yes {w w' : World} {o : Option (U6 × Int)} {u : U6} {s : Int} {A A2 : Option Addr} {c c2 : Nat} (h : o = some (u, s)) (hc : u.2.2.2.2.1.length <= c) (hs : SlI w' w.heap.size A u.2.2.2.2.1) (hm : SlM w' w.heap.size A2 u.2.2.2.2.2) (hn : Nx w w') :
 RetLN w o (.returned (.tuple #[vU u A c A2 c2, ii s])) w' :=
 ⟨hn, (fun h2 => by rw [h] at h2; cases h2), fun u' s' h2 => by rw [h] at h2; cases h2; exact ⟨A, c, A2, c2, rfl, hc, hs, hm⟩⟩
theorem l04Newest_c (A A2 : Option Addr) (n c n2 c2 B : Nat) (ss : List BA) (ws : List (Int × BA)) (w : World) (h : Strs w B A n ss) (h2 : Wrs w B A2 n2 ws) (hB : B <= w.heap.size) (ha : 1 < n) (hn : n <= 1048576) (hn2 : n2 <= 1048576) (hr0 : (readP ss ws 0).size <= 65536) (hr1 : (readP ss ws 1).size <= 65536) :
 Calls Tryz.prog 58 #[.agg #[sC A n c, sC A2 n2 c2]] w (RetLN w (newU (rdU (readP ss ws 0)) (rdU (readP ss ws 1)))) := by
 have b0 : Box ((w.alloc (.cells #[sC A n c, sC A2 n2 c2] 35)).alloc (.cells #[ii 0, ii 0, ii 0, ii 0, nsl, nsl] 26)) (w.heap.size + 1) 26 #[ii 0, ii 0, ii 0, ii 0, nsl, nsl] := by have := Box.new (w.alloc (.cells #[sC A n c, sC A2 n2 c2] 35)) 26 #[ii 0, ii 0, ii 0, ii 0, nsl, nsl]; rwa [World.size_alloc] at this
 have e0 : Box ((w.alloc (.cells #[sC A n c, sC A2 n2 c2] 35)).alloc (.cells #[ii 0, ii 0, ii 0, ii 0, nsl, nsl] 26)) w.heap.size 35 #[sC A n c, sC A2 n2 c2] := (Box.new w _ _).alloc _
 have hx0 := ((Nx.refl w).alloc (.cells #[sC A n c, sC A2 n2 c2] 35)).alloc (.cells #[ii 0, ii 0, ii 0, ii 0, nsl, nsl] 26)
 go_enter func58, ntmps58
 go_wp2_with fail
 generalize (w.alloc (.cells #[sC A n c, sC A2 n2 c2] 35)).alloc (.cells #[ii 0, ii 0, ii 0, ii 0, nsl, nsl] 26) = W at *
 obtain ⟨gR, Hg⟩ := nM (w.heap.size + 1)
 have hgR : w.heap.size <= gR := by have := Hg.out; omega
 rw [Hg.out] at b0 ⊢
 have hltW := b0.lt
 have bW := b0
 have eW := e0
 refine (l01Read_c A A2 n c n2 c2 B 0 ss ws _ (h.below hx0 hB) (h2.below hx0 hB) (ntr hB hx0.size) oM hn hn2).mono ?_
 rintro e x0w ⟨rfl, hnx0⟩
 have hx0a := hx0.trans hnx0
 go_wp2_with fail
 refine (l04Read_c (readP ss ws 0) _ hr0).mono ?_
 rintro e y0 ⟨hny0, h1, h2'⟩
 have hx0b := hx0a.trans hny0
 have z0 := (eW.nx (hnx0.trans hny0)).c0
 have z1 := (eW.nx (hnx0.trans hny0)).c1
 have hltz := (eW.nx (hnx0.trans hny0)).lt
 clear b0 e0
 cases hu0 : rdU (readP ss ws 0) with
 | none =>
   obtain rfl := h1 hu0
   have HU0 := qh hu0
   clear h1 h2' hu0
   go_wp2_with fail
   have bA := Box.new y0 26 #[ii 0, ii 0, ii 0, ii 0, nsl, nsl]
   have hzA := (Nx.refl y0).alloc (.cells #[ii 0, ii 0, ii 0, ii 0, nsl, nsl] 26)
   have bR := (bW.nx (hnx0.trans hny0)).nx hzA
   have eR := (eW.nx (hnx0.trans hny0)).nx hzA
   have hxA := hx0b.trans hzA
   change Calls _ _ _ (y0.alloc (.cells #[ii 0, ii 0, ii 0, ii 0, nsl, nsl] 26)) _
   generalize y0.alloc (.cells #[ii 0, ii 0, ii 0, ii 0, nsl, nsl] 26) = wA at *
   obtain ⟨gA, HgA⟩ := nM (y0.heap.size)
   rw [HgA.out] at bA ⊢
   have hgA : gR < gA := by have := HgA.out; have := (bW.nx (hnx0.trans hny0)).lt; omega
   refine (l01Read_c A A2 n c n2 c2 B 1 ss ws _ (h.below hxA hB) (h2.below hxA hB) (ntr hB hxA.size) oM hn hn2).mono ?_
   rintro e x1w ⟨rfl, hnx1⟩
   have hx1a := hxA.trans hnx1
   go_wp2_with fail
   refine (l04Read_c (readP ss ws 1) _ hr1).mono ?_
   rintro e y1 ⟨hny1, h1, h2'⟩
   have hx1b := hx1a.trans hny1
   cases hu1 : rdU (readP ss ws 1) with
   | none =>
     obtain rfl := h1 hu1
     have HU1 := qh hu1
     clear h1 h2' hu1
     have bA1 := bA.nx (hnx1.trans hny1)
     have bR1 := bR.nx (hnx1.trans hny1)
     have hxB := hx1b
     have hltx0 : gR < x0w.heap.size := (bW.nx hnx0).lt
     have hltx1 : gR < x1w.heap.size := (bR.nx hnx1).lt
     have hltA1 := bA1.lt
     have hltR1 := bR1.lt
     have hszx := hnx1.size
     have hszy := hxA.size
     obtain ⟨m0, m1, m2, m3, m4, m5⟩ := bA1.d6
     have HN : Hid (newU (rdU (readP ss ws 0)) (rdU (readP ss ws 1)) = none) := qh (by rw [HU0.out, HU1.out]; rfl)
     obtain ⟨u0, u1, u2, u3, u4, u5⟩ := bR1.d6
     have f0 := bR1.frozen 0
     have f1 := bR1.frozen 1
     have f2 := bR1.frozen 2
     have f3 := bR1.frozen 3
     have f4 := bR1.frozen 4
     have f5 := bR1.frozen 5
     go_wp2
     have qx := ((put6_box bR1 (ii 0) (ii 0) (ii 0) (ii 0) (nsl) (nsl)).alloc (.cells #[ii 0, ii 0, ii 0, ii 0, nsl, nsl] 26))
     have hnf := ((put6_nx hxB (hgR) (ii 0) (ii 0) (ii 0) (ii 0) (nsl) (nsl)).alloc (.cells #[ii 0, ii 0, ii 0, ii 0, nsl, nsl] 26))
     change bodyPost _ _ _ _ _ (World.alloc (put6 y1 gR (ii 0) (ii 0) (ii 0) (ii 0) (nsl) (nsl)) (.cells #[ii 0, ii 0, ii 0, ii 0, nsl, nsl] 26))
     change Box (World.alloc (put6 y1 gR (ii 0) (ii 0) (ii 0) (ii 0) (nsl) (nsl)) (.cells #[ii 0, ii 0, ii 0, ii 0, nsl, nsl] 26)) _ _ _ at qx
     generalize World.alloc (put6 y1 gR (ii 0) (ii 0) (ii 0) (ii 0) (nsl) (nsl)) (.cells #[ii 0, ii 0, ii 0, ii 0, nsl, nsl] 26) = Wf at *
     obtain ⟨cq0, cq1, cq2, cq3, cq4, cq5⟩ := qx.d6
     exact bodyPost_ret (v := .tuple #[.agg #[ii 0, ii 0, ii 0, ii 0, nsl, nsl], ii (-1)]) (by simp [results, results58, go_sem, cq0, cq1, cq2, cq3, cq4, cq5]) rfl (RetLN.no HN.out hnf)
   | some u =>
     obtain ⟨g1, b1, p1, q1, xs1, ms1⟩ := u
     obtain ⟨Ax1, cx1, Am1, cm1, he, hcc, hS1, hM1⟩ := h2' _ hu1
     replace he : e = .returned (.tuple #[.agg #[ii g1, ii b1, ii p1, ii q1, sC Ax1 xs1.length cx1, sC Am1 ms1.length cm1], .bool true]) := he
     replace hS1 : SlI y1 x1w.heap.size Ax1 xs1 := hS1
     replace hM1 : SlM y1 x1w.heap.size Am1 ms1 := hM1
     have HCC1 : Hid (xs1.length <= cx1) := qh hcc
     have HU1 := qh hu1
     subst he
     clear h1 h2' hu1 hcc
     have bA1 := bA.nx (hnx1.trans hny1)
     have bR1 := bR.nx (hnx1.trans hny1)
     have hxB := hx1b
     have hS1B := hS1
     have hM1B := hM1
     have hltx0 : gR < x0w.heap.size := (bW.nx hnx0).lt
     have hltx1 : gR < x1w.heap.size := (bR.nx hnx1).lt
     have hltA1 := bA1.lt
     have hltR1 := bR1.lt
     have hszx := hnx1.size
     have hszy := hxA.size
     obtain ⟨m0, m1, m2, m3, m4, m5⟩ := bA1.d6
     have HN : Hid (newU (rdU (readP ss ws 0)) (rdU (readP ss ws 1)) = some ((g1, b1, p1, q1, xs1, ms1), 1)) := qh (by rw [HU0.out, HU1.out]; rfl)
     obtain ⟨u0, u1, u2, u3, u4, u5⟩ := bR1.d6
     have f0 := bR1.frozen 0
     have f1 := bR1.frozen 1
     have f2 := bR1.frozen 2
     have f3 := bR1.frozen 3
     have f4 := bR1.frozen 4
     have f5 := bR1.frozen 5
     go_wp2
     have qx := ((put6_box bR1 (ii g1) (ii b1) (ii p1) (ii q1) (sC Ax1 xs1.length cx1) (sC Am1 ms1.length cm1)).alloc (.cells #[ii g1, ii b1, ii p1, ii q1, sC Ax1 xs1.length cx1, sC Am1 ms1.length cm1] 26))
     have hnf := ((put6_nx hxB (hgR) (ii g1) (ii b1) (ii p1) (ii q1) (sC Ax1 xs1.length cx1) (sC Am1 ms1.length cm1)).alloc (.cells #[ii g1, ii b1, ii p1, ii q1, sC Ax1 xs1.length cx1, sC Am1 ms1.length cm1] 26))
     have hsf := ((hS1B.pt6 hltx1 (ii g1) (ii b1) (ii p1) (ii q1) (sC Ax1 xs1.length cx1) (sC Am1 ms1.length cm1)).nx ((Nx.refl _).alloc (.cells #[ii g1, ii b1, ii p1, ii q1, sC Ax1 xs1.length cx1, sC Am1 ms1.length cm1] 26)))
     change Sl (World.alloc (put6 y1 gR (ii g1) (ii b1) (ii p1) (ii q1) (sC Ax1 xs1.length cx1) (sC Am1 ms1.length cm1)) (.cells #[ii g1, ii b1, ii p1, ii q1, sC Ax1 xs1.length cx1, sC Am1 ms1.length cm1] 26)) _ _ _ _ _ at hsf
     have hmf := ((hM1B.pt6 hltx1 (ii g1) (ii b1) (ii p1) (ii q1) (sC Ax1 xs1.length cx1) (sC Am1 ms1.length cm1)).nx ((Nx.refl _).alloc (.cells #[ii g1, ii b1, ii p1, ii q1, sC Ax1 xs1.length cx1, sC Am1 ms1.length cm1] 26)))
     change Sl (World.alloc (put6 y1 gR (ii g1) (ii b1) (ii p1) (ii q1) (sC Ax1 xs1.length cx1) (sC Am1 ms1.length cm1)) (.cells #[ii g1, ii b1, ii p1, ii q1, sC Ax1 xs1.length cx1, sC Am1 ms1.length cm1] 26)) _ _ _ _ _ at hmf
     change bodyPost _ _ _ _ _ (World.alloc (put6 y1 gR (ii g1) (ii b1) (ii p1) (ii q1) (sC Ax1 xs1.length cx1) (sC Am1 ms1.length cm1)) (.cells #[ii g1, ii b1, ii p1, ii q1, sC Ax1 xs1.length cx1, sC Am1 ms1.length cm1] 26))
     change Box (World.alloc (put6 y1 gR (ii g1) (ii b1) (ii p1) (ii q1) (sC Ax1 xs1.length cx1) (sC Am1 ms1.length cm1)) (.cells #[ii g1, ii b1, ii p1, ii q1, sC Ax1 xs1.length cx1, sC Am1 ms1.length cm1] 26)) _ _ _ at qx
     generalize World.alloc (put6 y1 gR (ii g1) (ii b1) (ii p1) (ii q1) (sC Ax1 xs1.length cx1) (sC Am1 ms1.length cm1)) (.cells #[ii g1, ii b1, ii p1, ii q1, sC Ax1 xs1.length cx1, sC Am1 ms1.length cm1] 26) = Wf at *
     obtain ⟨hmf0, hmf1, hmf2, hmf3, hmf4, hmf5⟩ := qx.d6
     exact bodyPost_ret (v := .tuple #[.agg #[ii g1, ii b1, ii p1, ii q1, sC Ax1 xs1.length cx1, sC Am1 ms1.length cm1], ii 1]) (by simp [results, results58, go_sem, hmf0, hmf1, hmf2, hmf3, hmf4, hmf5]) rfl (RetLN.yes (u := (g1, b1, p1, q1, xs1, ms1)) HN.out HCC1.out (hsf.low oM) (hmf.low oM) hnf)
 | some u =>
   obtain ⟨g0, b0, p0, q0, xs0, ms0⟩ := u
   obtain ⟨Ax0, cx0, Am0, cm0, he, hcc, hS0, hM0⟩ := h2' _ hu0
   replace he : e = .returned (.tuple #[.agg #[ii g0, ii b0, ii p0, ii q0, sC Ax0 xs0.length cx0, sC Am0 ms0.length cm0], .bool true]) := he
   replace hS0 : SlI y0 x0w.heap.size Ax0 xs0 := hS0
   replace hM0 : SlM y0 x0w.heap.size Am0 ms0 := hM0
   have HCC0 : Hid (xs0.length <= cx0) := qh hcc
   have HU0 := qh hu0
   subst he
   clear h1 h2' hu0 hcc
   go_wp2_with fail
   have bA := Box.new y0 26 #[ii g0, ii b0, ii p0, ii q0, sC Ax0 xs0.length cx0, sC Am0 ms0.length cm0]
   have hzA := (Nx.refl y0).alloc (.cells #[ii g0, ii b0, ii p0, ii q0, sC Ax0 xs0.length cx0, sC Am0 ms0.length cm0] 26)
   have bR := (bW.nx (hnx0.trans hny0)).nx hzA
   have eR := (eW.nx (hnx0.trans hny0)).nx hzA
   have hxA := hx0b.trans hzA
   have hS0A := hS0.nx hzA
   have hM0A := hM0.nx hzA
   change Calls _ _ _ (y0.alloc (.cells #[ii g0, ii b0, ii p0, ii q0, sC Ax0 xs0.length cx0, sC Am0 ms0.length cm0] 26)) _
   generalize y0.alloc (.cells #[ii g0, ii b0, ii p0, ii q0, sC Ax0 xs0.length cx0, sC Am0 ms0.length cm0] 26) = wA at *
   obtain ⟨gA, HgA⟩ := nM (y0.heap.size)
   rw [HgA.out] at bA ⊢
   have hgA : gR < gA := by have := HgA.out; have := (bW.nx (hnx0.trans hny0)).lt; omega
   refine (l01Read_c A A2 n c n2 c2 B 1 ss ws _ (h.below hxA hB) (h2.below hxA hB) (ntr hB hxA.size) oM hn hn2).mono ?_
   rintro e x1w ⟨rfl, hnx1⟩
   have hx1a := hxA.trans hnx1
   go_wp2_with fail
   refine (l04Read_c (readP ss ws 1) _ hr1).mono ?_
   rintro e y1 ⟨hny1, h1, h2'⟩
   have hx1b := hx1a.trans hny1
   cases hu1 : rdU (readP ss ws 1) with
   | none =>
     obtain rfl := h1 hu1
     have HU1 := qh hu1
     clear h1 h2' hu1
     have bA1 := bA.nx (hnx1.trans hny1)
     have bR1 := bR.nx (hnx1.trans hny1)
     have hxB := hx1b
     have hS0B := hS0A.nx (hnx1.trans hny1)
     have hM0B := hM0A.nx (hnx1.trans hny1)
     have hltx0 : gR < x0w.heap.size := (bW.nx hnx0).lt
     have hltx1 : gR < x1w.heap.size := (bR.nx hnx1).lt
     have hltA1 := bA1.lt
     have hltR1 := bR1.lt
     have hszx := hnx1.size
     have hszy := hxA.size
     obtain ⟨m0, m1, m2, m3, m4, m5⟩ := bA1.d6
     have HN : Hid (newU (rdU (readP ss ws 0)) (rdU (readP ss ws 1)) = some ((g0, b0, p0, q0, xs0, ms0), 0)) := qh (by rw [HU0.out, HU1.out]; rfl)
     obtain ⟨u0, u1, u2, u3, u4, u5⟩ := bR1.d6
     have f0 := bR1.frozen 0
     have f1 := bR1.frozen 1
     have f2 := bR1.frozen 2
     have f3 := bR1.frozen 3
     have f4 := bR1.frozen 4
     have f5 := bR1.frozen 5
     go_wp2
     have qx := ((put6_box bR1 (ii g0) (ii b0) (ii p0) (ii q0) (sC Ax0 xs0.length cx0) (sC Am0 ms0.length cm0)).alloc (.cells #[ii 0, ii 0, ii 0, ii 0, nsl, nsl] 26))
     have hnf := ((put6_nx hxB (hgR) (ii g0) (ii b0) (ii p0) (ii q0) (sC Ax0 xs0.length cx0) (sC Am0 ms0.length cm0)).alloc (.cells #[ii 0, ii 0, ii 0, ii 0, nsl, nsl] 26))
     have hsf := ((hS0B.pt6 hltx0 (ii g0) (ii b0) (ii p0) (ii q0) (sC Ax0 xs0.length cx0) (sC Am0 ms0.length cm0)).nx ((Nx.refl _).alloc (.cells #[ii 0, ii 0, ii 0, ii 0, nsl, nsl] 26)))
     change Sl (World.alloc (put6 y1 gR (ii g0) (ii b0) (ii p0) (ii q0) (sC Ax0 xs0.length cx0) (sC Am0 ms0.length cm0)) (.cells #[ii 0, ii 0, ii 0, ii 0, nsl, nsl] 26)) _ _ _ _ _ at hsf
     have hmf := ((hM0B.pt6 hltx0 (ii g0) (ii b0) (ii p0) (ii q0) (sC Ax0 xs0.length cx0) (sC Am0 ms0.length cm0)).nx ((Nx.refl _).alloc (.cells #[ii 0, ii 0, ii 0, ii 0, nsl, nsl] 26)))
     change Sl (World.alloc (put6 y1 gR (ii g0) (ii b0) (ii p0) (ii q0) (sC Ax0 xs0.length cx0) (sC Am0 ms0.length cm0)) (.cells #[ii 0, ii 0, ii 0, ii 0, nsl, nsl] 26)) _ _ _ _ _ at hmf
     change bodyPost _ _ _ _ _ (World.alloc (put6 y1 gR (ii g0) (ii b0) (ii p0) (ii q0) (sC Ax0 xs0.length cx0) (sC Am0 ms0.length cm0)) (.cells #[ii 0, ii 0, ii 0, ii 0, nsl, nsl] 26))
     change Box (World.alloc (put6 y1 gR (ii g0) (ii b0) (ii p0) (ii q0) (sC Ax0 xs0.length cx0) (sC Am0 ms0.length cm0)) (.cells #[ii 0, ii 0, ii 0, ii 0, nsl, nsl] 26)) _ _ _ at qx
     generalize World.alloc (put6 y1 gR (ii g0) (ii b0) (ii p0) (ii q0) (sC Ax0 xs0.length cx0) (sC Am0 ms0.length cm0)) (.cells #[ii 0, ii 0, ii 0, ii 0, nsl, nsl] 26) = Wf at *
     obtain ⟨hmf0, hmf1, hmf2, hmf3, hmf4, hmf5⟩ := qx.d6
     exact bodyPost_ret (v := .tuple #[.agg #[ii g0, ii b0, ii p0, ii q0, sC Ax0 xs0.length cx0, sC Am0 ms0.length cm0], ii 0]) (by simp [results, results58, go_sem, hmf0, hmf1, hmf2, hmf3, hmf4, hmf5]) rfl (RetLN.yes (u := (g0, b0, p0, q0, xs0, ms0)) HN.out HCC0.out (hsf.low oM) (hmf.low oM) hnf)
   | some u =>
     obtain ⟨g1, b1, p1, q1, xs1, ms1⟩ := u
     obtain ⟨Ax1, cx1, Am1, cm1, he, hcc, hS1, hM1⟩ := h2' _ hu1
     replace he : e = .returned (.tuple #[.agg #[ii g1, ii b1, ii p1, ii q1, sC Ax1 xs1.length cx1, sC Am1 ms1.length cm1], .bool true]) := he
     replace hS1 : SlI y1 x1w.heap.size Ax1 xs1 := hS1
     replace hM1 : SlM y1 x1w.heap.size Am1 ms1 := hM1
     have HCC1 : Hid (xs1.length <= cx1) := qh hcc
     have HU1 := qh hu1
     subst he
     clear h1 h2' hu1 hcc
     have bA1 := bA.nx (hnx1.trans hny1)
     have bR1 := bR.nx (hnx1.trans hny1)
     have hxB := hx1b
     have hS0B := hS0A.nx (hnx1.trans hny1)
     have hM0B := hM0A.nx (hnx1.trans hny1)
     have hS1B := hS1
     have hM1B := hM1
     have hltx0 : gR < x0w.heap.size := (bW.nx hnx0).lt
     have hltx1 : gR < x1w.heap.size := (bR.nx hnx1).lt
     have hltA1 := bA1.lt
     have hltR1 := bR1.lt
     have hszx := hnx1.size
     have hszy := hxA.size
     obtain ⟨m0, m1, m2, m3, m4, m5⟩ := bA1.d6
     by_cases hgt : g0 < g1
     . have hd : decide (g1 <= g0) = false := decide_eq_false oM
       have HN : Hid (newU (rdU (readP ss ws 0)) (rdU (readP ss ws 1)) = some ((g1, b1, p1, q1, xs1, ms1), 1)) := qh (by rw [HU0.out, HU1.out]; show (if g0 < g1 then _ else _) = _; rw [if_pos hgt])
       obtain ⟨u0, u1, u2, u3, u4, u5⟩ := bR1.d6
       have f0 := bR1.frozen 0
       have f1 := bR1.frozen 1
       have f2 := bR1.frozen 2
       have f3 := bR1.frozen 3
       have f4 := bR1.frozen 4
       have f5 := bR1.frozen 5
       go_wp2
       have qx := ((put6_box bR1 (ii g1) (ii b1) (ii p1) (ii q1) (sC Ax1 xs1.length cx1) (sC Am1 ms1.length cm1)).alloc (.cells #[ii g1, ii b1, ii p1, ii q1, sC Ax1 xs1.length cx1, sC Am1 ms1.length cm1] 26))
       have hnf := ((put6_nx hxB (hgR) (ii g1) (ii b1) (ii p1) (ii q1) (sC Ax1 xs1.length cx1) (sC Am1 ms1.length cm1)).alloc (.cells #[ii g1, ii b1, ii p1, ii q1, sC Ax1 xs1.length cx1, sC Am1 ms1.length cm1] 26))
       have hsf := ((hS1B.pt6 hltx1 (ii g1) (ii b1) (ii p1) (ii q1) (sC Ax1 xs1.length cx1) (sC Am1 ms1.length cm1)).nx ((Nx.refl _).alloc (.cells #[ii g1, ii b1, ii p1, ii q1, sC Ax1 xs1.length cx1, sC Am1 ms1.length cm1] 26)))
       change Sl (World.alloc (put6 y1 gR (ii g1) (ii b1) (ii p1) (ii q1) (sC Ax1 xs1.length cx1) (sC Am1 ms1.length cm1)) (.cells #[ii g1, ii b1, ii p1, ii q1, sC Ax1 xs1.length cx1, sC Am1 ms1.length cm1] 26)) _ _ _ _ _ at hsf
       have hmf := ((hM1B.pt6 hltx1 (ii g1) (ii b1) (ii p1) (ii q1) (sC Ax1 xs1.length cx1) (sC Am1 ms1.length cm1)).nx ((Nx.refl _).alloc (.cells #[ii g1, ii b1, ii p1, ii q1, sC Ax1 xs1.length cx1, sC Am1 ms1.length cm1] 26)))
       change Sl (World.alloc (put6 y1 gR (ii g1) (ii b1) (ii p1) (ii q1) (sC Ax1 xs1.length cx1) (sC Am1 ms1.length cm1)) (.cells #[ii g1, ii b1, ii p1, ii q1, sC Ax1 xs1.length cx1, sC Am1 ms1.length cm1] 26)) _ _ _ _ _ at hmf
       change bodyPost _ _ _ _ _ (World.alloc (put6 y1 gR (ii g1) (ii b1) (ii p1) (ii q1) (sC Ax1 xs1.length cx1) (sC Am1 ms1.length cm1)) (.cells #[ii g1, ii b1, ii p1, ii q1, sC Ax1 xs1.length cx1, sC Am1 ms1.length cm1] 26))
       change Box (World.alloc (put6 y1 gR (ii g1) (ii b1) (ii p1) (ii q1) (sC Ax1 xs1.length cx1) (sC Am1 ms1.length cm1)) (.cells #[ii g1, ii b1, ii p1, ii q1, sC Ax1 xs1.length cx1, sC Am1 ms1.length cm1] 26)) _ _ _ at qx
       generalize World.alloc (put6 y1 gR (ii g1) (ii b1) (ii p1) (ii q1) (sC Ax1 xs1.length cx1) (sC Am1 ms1.length cm1)) (.cells #[ii g1, ii b1, ii p1, ii q1, sC Ax1 xs1.length cx1, sC Am1 ms1.length cm1] 26) = Wf at *
       obtain ⟨hmf0, hmf1, hmf2, hmf3, hmf4, hmf5⟩ := qx.d6
       exact bodyPost_ret (v := .tuple #[.agg #[ii g1, ii b1, ii p1, ii q1, sC Ax1 xs1.length cx1, sC Am1 ms1.length cm1], ii 1]) (by simp [results, results58, go_sem, hmf0, hmf1, hmf2, hmf3, hmf4, hmf5]) rfl (RetLN.yes (u := (g1, b1, p1, q1, xs1, ms1)) HN.out HCC1.out (hsf.low oM) (hmf.low oM) hnf)
     . have hd : decide (g1 <= g0) = true := decide_eq_true oM
       have HN : Hid (newU (rdU (readP ss ws 0)) (rdU (readP ss ws 1)) = some ((g0, b0, p0, q0, xs0, ms0), 0)) := qh (by rw [HU0.out, HU1.out]; show (if g0 < g1 then _ else _) = _; rw [if_neg hgt])
       obtain ⟨u0, u1, u2, u3, u4, u5⟩ := bR1.d6
       have f0 := bR1.frozen 0
       have f1 := bR1.frozen 1
       have f2 := bR1.frozen 2
       have f3 := bR1.frozen 3
       have f4 := bR1.frozen 4
       have f5 := bR1.frozen 5
       go_wp2
       have qx := ((put6_box bR1 (ii g0) (ii b0) (ii p0) (ii q0) (sC Ax0 xs0.length cx0) (sC Am0 ms0.length cm0)).alloc (.cells #[ii g1, ii b1, ii p1, ii q1, sC Ax1 xs1.length cx1, sC Am1 ms1.length cm1] 26))
       have hnf := ((put6_nx hxB (hgR) (ii g0) (ii b0) (ii p0) (ii q0) (sC Ax0 xs0.length cx0) (sC Am0 ms0.length cm0)).alloc (.cells #[ii g1, ii b1, ii p1, ii q1, sC Ax1 xs1.length cx1, sC Am1 ms1.length cm1] 26))
       have hsf := ((hS0B.pt6 hltx0 (ii g0) (ii b0) (ii p0) (ii q0) (sC Ax0 xs0.length cx0) (sC Am0 ms0.length cm0)).nx ((Nx.refl _).alloc (.cells #[ii g1, ii b1, ii p1, ii q1, sC Ax1 xs1.length cx1, sC Am1 ms1.length cm1] 26)))
       change Sl (World.alloc (put6 y1 gR (ii g0) (ii b0) (ii p0) (ii q0) (sC Ax0 xs0.length cx0) (sC Am0 ms0.length cm0)) (.cells #[ii g1, ii b1, ii p1, ii q1, sC Ax1 xs1.length cx1, sC Am1 ms1.length cm1] 26)) _ _ _ _ _ at hsf
       have hmf := ((hM0B.pt6 hltx0 (ii g0) (ii b0) (ii p0) (ii q0) (sC Ax0 xs0.length cx0) (sC Am0 ms0.length cm0)).nx ((Nx.refl _).alloc (.cells #[ii g1, ii b1, ii p1, ii q1, sC Ax1 xs1.length cx1, sC Am1 ms1.length cm1] 26)))
       change Sl (World.alloc (put6 y1 gR (ii g0) (ii b0) (ii p0) (ii q0) (sC Ax0 xs0.length cx0) (sC Am0 ms0.length cm0)) (.cells #[ii g1, ii b1, ii p1, ii q1, sC Ax1 xs1.length cx1, sC Am1 ms1.length cm1] 26)) _ _ _ _ _ at hmf
       change bodyPost _ _ _ _ _ (World.alloc (put6 y1 gR (ii g0) (ii b0) (ii p0) (ii q0) (sC Ax0 xs0.length cx0) (sC Am0 ms0.length cm0)) (.cells #[ii g1, ii b1, ii p1, ii q1, sC Ax1 xs1.length cx1, sC Am1 ms1.length cm1] 26))
       change Box (World.alloc (put6 y1 gR (ii g0) (ii b0) (ii p0) (ii q0) (sC Ax0 xs0.length cx0) (sC Am0 ms0.length cm0)) (.cells #[ii g1, ii b1, ii p1, ii q1, sC Ax1 xs1.length cx1, sC Am1 ms1.length cm1] 26)) _ _ _ at qx
       generalize World.alloc (put6 y1 gR (ii g0) (ii b0) (ii p0) (ii q0) (sC Ax0 xs0.length cx0) (sC Am0 ms0.length cm0)) (.cells #[ii g1, ii b1, ii p1, ii q1, sC Ax1 xs1.length cx1, sC Am1 ms1.length cm1] 26) = Wf at *
       obtain ⟨hmf0, hmf1, hmf2, hmf3, hmf4, hmf5⟩ := qx.d6
       exact bodyPost_ret (v := .tuple #[.agg #[ii g0, ii b0, ii p0, ii q0, sC Ax0 xs0.length cx0, sC Am0 ms0.length cm0], ii 0]) (by simp [results, results58, go_sem, hmf0, hmf1, hmf2, hmf3, hmf4, hmf5]) rfl (RetLN.yes (u := (g0, b0, p0, q0, xs0, ms0)) HN.out HCC0.out (hsf.low oM) (hmf.low oM) hnf)
theorem newU_slot {o0 o1 : Option U6} {u : U6} {s : Int} (h : newU o0 o1 = some (u, s)) : s = 0 \/ s = 1 := by
 unfold newU at h
 split at h
 . split at h <;> cases h
   . exact .inr rfl
   . exact .inl rfl
 . cases h; exact .inl rfl
 . cases h; exact .inr rfl
 . cases h
theorem newU_from {o0 o1 : Option U6} {u : U6} {s : Int} (h : newU o0 o1 = some (u, s)) : o0 = some u \/ o1 = some u := by
 unfold newU at h
 split at h
 . split at h <;> cases h
   . exact .inr rfl
   . exact .inl rfl
 . cases h; exact .inl rfl
 . cases h; exact .inr rfl
 . cases h
end
end Go.Proofs.YtieoiailjjnnoaaGreatDoor
