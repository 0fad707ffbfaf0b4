/-
  Texts of the proof, in their order.
  Conditions: those of each.
-/
import Derived.Test.YtieoiailjjnnoaaGreatDoorMs11
import Derived.Deep.RegionHeld3
import Derived.Deep.AppendLies
import Derived.Outline
import Derived.StillTailTactics
namespace Go.Proofs.YtieoiailjjnnoaaGreatDoor
set_option linter.unusedVariables false
set_option maxRecDepth 100000
set_option maxHeartbeats 16000000
open Go.RowKit
theorem own_of_owns {w : World} {base : Nat} {e : TypeId} {size n : Nat} {v : Value} {N : Nat} {f : Nat → Value} (h : w.ownsRow base e size v n ((List.range N).map f)) (hn : 0 < n) (hN : N = n * size) :
 ∃ g cap, v = .slice (some ⟨g, 0, none⟩) n cap ∧ base ≤ g ∧ Own w g e N f := by
 rcases h.2 with ⟨_, h0⟩ | ⟨g, cap, cur, hv, hb, hg, hnc, _, hsz, htake⟩
 · omega
 · refine ⟨g, cap, hv, hb, cur, hg, ?_, fun i hi => ?_⟩
   · rw [hsz, hN]; exact Nat.mul_le_mul_right _ hnc
   · have : (cur.toList.take (n * size))[i]? = some (f i) := by
      rw [htake, List.getElem?_map, List.getElem?_range hi]; rfl
     rw [List.getElem?_take_of_lt (by omega)] at this
     simpa using this
theorem owns_empty (w : World) (g e : Nat) (size base : Nat) (hb : base ≤ g) (hg : w.heap[g]? = some (.cells #[] e (0, 0))) : w.ownsRow base e size (.slice (some ⟨g, 0, none⟩) 0 0) 0 [] :=
 ⟨by simp, .inr ⟨g, 0, #[], rfl, hb, hg, Nat.le_refl _, by unfold maxLen; omega, by simp, by simp⟩⟩
theorem owns_base {w : World} {base : Nat} {e : TypeId} {size n : Nat} {v : Value} {xs : List Value} (h : w.ownsRow base e size v n xs) : ∀ k, v.ownBlock = some k → base ≤ k := by
 intro k hk
 rcases h.2 with ⟨rfl, _⟩ | ⟨g, cap, cur, rfl, hb, _⟩
 · simp [Value.ownBlock] at hk
 · simp [Value.ownBlock] at hk; omega
theorem NewRow.slS {w u : World} {A : Option Addr} {n : Nat} {ss : List BA} (h : NewRow w u 9 1 A n (strAt ss)) (hl : ss.length = n) : SlS u w.heap.size A n ss :=
 ⟨hl, fun hn => by
  obtain ⟨g, e, hg, ho⟩ := h.2 hn
  refine ⟨g, e, hg, ?_⟩
  unfold OwnS
  rw [hl]
  rw [Nat.mul_one] at ho
  exact ho⟩
theorem NewRow.slW {w u : World} {A : Option Addr} {n : Nat} {ws : List (Int × BA)} (h : NewRow w u 102 2 A n (wrAt ws)) (hl : ws.length = n) : SlW u w.heap.size A n ws :=
 ⟨hl, fun hn => by
  obtain ⟨g, e, hg, ho⟩ := h.2 hn
  refine ⟨g, e, hg, ?_⟩
  unfold OwnW
  rw [hl]
  exact ho⟩
def RetWrite (w : World) (A : Option Addr) (n c : Nat) (ws : List (Int × BA)) (e : Ending) (w' : World) : Prop :=
 ∃ (A2 : Option Addr) (n2 c2 : Nat), e = .returned (.agg #[.slice A n c, .slice A2 n2 c2]) ∧ SlW w' w.heap.size A2 n2 ws ∧ Nx w w'
theorem run_append_row {P : Program} (w : World) (base : Nat) (t ty e : TypeId) (i : TypeInfo) (z : Value) (size bytes : Nat) (ht : P.underlying t = some (.slice e)) (hi : P.info? e = some i) (hz : i.zero = some z)
 (hsize : i.size = size) (hby : i.bytes = bytes) (hzs : z.cells.size = size) (hsz : 0 < size) (v : Value) (n : Nat) (xs : List Value) (hown : w.ownsRow base e size v n xs)
 (A : Option Addr) (m c B : Nat) (f : Nat → Value) (hrow : Row w B A (m * size) f) (h1 : ∀ k, (f k).oneCell' = true) (h63 : n + m ≤ maxLen) (hbytes : (n + m) * bytes ≤ 140737488355328) (hbase : base ≤ w.heap.size) :
 ∃ v' w', (Builtin.append_ #[t, t] ty #[v, .slice A m c]).run P w = .ok v' w' ∧ w'.ownsRow base e size v' (n + m) (xs ++ (List.range (m * size)).map f) ∧ w.grownBy w' v.ownBlock := by
 rcases A with _ | a
 · have hm : m = 0 := by
    rcases Nat.eq_zero_or_pos m with h0 | h0
    · exact h0
    · obtain ⟨b, off, h, _⟩ := hrow (Nat.mul_pos h0 hsz)
      cases h
   subst hm
   refine ⟨v, w, ?_, by simpa using hown, World.grownBy.refl w _⟩
   rcases hown.2 with ⟨rfl, rfl⟩ | ⟨g, cap, cur, rfl, _, _, hnc, _⟩
   · simp [Builtin.append_, run_underlying ht, sizeOf, typeInfo, hi, Builtin.lenOf, Builtin.firstCells]
   · simp [Builtin.append_, run_underlying ht, sizeOf, typeInfo, hi, Builtin.lenOf, Builtin.firstCells, hnc, storeCells]
 · obtain ⟨v', w', hr, h2, h3, _⟩ := run_append_own (P := P) w base t ty e i z size bytes ht hi hz hsize hby hzs hsz v n xs hown a m c ((List.range (m * size)).map f) (by simp) (fun j u h => by
    obtain ⟨hj, rfl⟩ := cells_list _ _ _ _ h
    obtain ⟨b, off, e1, _, hc⟩ := hrow (by omega)
    injection e1 with e1
    subst e1
    rw [addr_add']; exact hc j hj) (fun u hu => by
    simp only [List.mem_map, List.mem_range] at hu
    obtain ⟨k, _, rfl⟩ := hu
    exact h1 k) h63 hbytes hbase
   exact ⟨v', w', hr, h2, h3⟩
theorem wpList_append_row {P : Program} {ops : Array Oper} {rest : List Oper} {o : Oper} {a : Act} {w : World} {Q : Exit → Act → World → Prop} (hgd : o.guard = none) (s x : Operand) (t : TypeId) (ho : o.op = .call { callee := .builtin .append, args := #[s, x], argTypes := #[t, t] })
 (base : Nat) (e : TypeId) (i : TypeInfo) (z : Value) (size bytes : Nat) (ht : P.underlying t = some (.slice e)) (hi : P.info? e = some i) (hz : i.zero = some z)
 (hsize : i.size = size) (hby : i.bytes = bytes) (hzs : z.cells.size = size) (hsz : 0 < size) (v : Value) (n : Nat) (xs : List Value) (hs : a.eval s = v) (hown : w.ownsRow base e size v n xs)
 (A : Option Addr) (m c B : Nat) (f : Nat → Value) (hx : a.eval x = .slice A m c) (hrow : Row w B A (m * size) f) (h1 : ∀ k, (f k).oneCell' = true) (h63 : n + m ≤ maxLen) (hbytes : (n + m) * bytes ≤ 140737488355328) (hbase : base ≤ w.heap.size)
 (h : ∀ v' w', w'.ownsRow base e size v' (n + m) (xs ++ (List.range (m * size)).map f) → w.grownBy w' v.ownBlock → wpList P ops Q rest (a.put o.dst v') w') : wpList P ops Q (o :: rest) a w :=
 wpList_plain hgd fun K hK => by
  obtain ⟨v', w', hrun, h2, h3⟩ := run_append_row (P := P) w base t o.type e i z size bytes ht hi hz hsize hby hzs hsz v n xs hown A m c B f hrow h1 h63 hbytes hbase
  unfold Oper.wp execOp
  simp only [ho, resolve, invoke, builtin, Sem.run_bind, Sem.run_pure, Result.andThen_ok, List.map_toArray, List.map_cons, List.map_nil, hs, hx, hrun]
  exact hK _ _ (h v' w' h2 h3)
def oneW (x : Int) (t : BA) (i : Nat) : Value := if i = 0 then ii x else .string t
theorem oneW_one (x : Int) (t : BA) (k : Nat) : (oneW x t k).oneCell' = true := by unfold oneW; split <;> rfl
theorem wr_list (ws : List (Int × BA)) (x : Int) (t : BA) :
 (List.range (ws.length * 2)).map (wrAt ws) ++ (List.range 2).map (oneW x t) = (List.range ((ws.length + 1) * 2)).map (wrAt (ws ++ [(x, t)])) := by
 apply List.ext_getElem?
 intro k
 by_cases hk : k < (ws.length + 1) * 2
 · rw [List.getElem?_map (l := List.range ((ws.length + 1) * 2)), List.getElem?_range hk, Option.map_some, wrAt_snoc ws x t k hk]
   by_cases h1 : k < ws.length * 2
   · rw [List.getElem?_append_left (by simpa using h1), List.getElem?_map, List.getElem?_range h1, Option.map_some, if_neg (by omega), if_neg (by omega)]
   · rw [List.getElem?_append_right (by simpa using h1), List.getElem?_map, List.length_map, List.length_range, List.getElem?_range (by omega), Option.map_some]
     unfold oneW
     by_cases h2 : k = ws.length * 2
     · rw [if_pos (by omega), if_neg (by omega), if_pos h2]
     · rw [if_neg (by omega), if_pos (by omega)]
 · rw [List.getElem?_eq_none (by simp; omega), List.getElem?_eq_none (by simp; omega)]
theorem box_row {w : World} {g : Nat} {ty : TypeId} {x : Int} {t : BA} (h : Box w g ty #[ii x, .string t]) : Row w w.heap.size (some ⟨g, 0, none⟩) (1 * 2) (oneW x t) := fun _ =>
 ⟨g, 0, rfl, h.lt, fun i hi => by
  rw [Nat.zero_add]
  rcases (show i = 0 ∨ i = 1 by omega) with rfl | rfl
  · exact h.c0
  · exact h.c1⟩
theorem l01Write_c (A A2 : Option Addr) (n c n2 c2 B : Nat) (ws : List (Int × BA)) (x : Int) (t : BA) (w : World) (h2 : Wrs w B A2 n2 ws) (hB : B ≤ w.heap.size) (hn2 : n2 ≤ 1048575) :
 Calls Tryz.prog 131 #[.agg #[.slice A n c, .slice A2 n2 c2], ii x, .string t] w (RetWrite w A n c (ws ++ [(x, t)])) := by
 obtain ⟨i0, hi0, hz0, hz1, hz2⟩ := info_parts info_wr
 have b0 := ((Box.new w 35 #[.slice A n c, .slice A2 n2 c2]).alloc (.cells #[nsl, nsl] 35)).alloc (.cells #[] 102)
 have r0 := (Box.new (w.alloc (.cells #[.slice A n c, .slice A2 n2 c2] 35)) 35 #[nsl, nsl]).alloc (.cells #[] 102)
 have m0 := Box.new ((w.alloc (.cells #[.slice A n c, .slice A2 n2 c2] 35)).alloc (.cells #[nsl, nsl] 35)) 102 #[]
 have hnx0 := (((Nx.refl w).alloc (.cells #[.slice A n c, .slice A2 n2 c2] 35)).alloc (.cells #[nsl, nsl] 35)).alloc (.cells #[] 102)
 simp only [World.size_alloc] at r0 m0
 have hown0 := owns_empty _ (w.heap.size + 1 + 1) 102 2 (w.heap.size + 1 + 1) nle m0
 go_enter Tryz.func131, Tryz.ntmps131
 go_wp2_with (at_builtin; refine wpList_append_row rfl (.tmp 7) (.tmp 9) 33 rfl (w.heap.size + 1 + 1) 102 i0 _ 2 24 Tryz.underlying33 hi0 hz0 hz1 hz2 rfl (by omega) (.slice (some ⟨w.heap.size + 1 + 1, 0, none⟩) 0 0) 0 [] rfl hown0 A2 n2 c2 B (wrAt ws) rfl (h2.below hnx0 hB).2 (wrAt_one ws) ?c1 ?c2 ?c3 ?_)
 case c1 => unfold maxLen; omega
 case c2 => omega
 case c3 => simp
 intro v1 w1 hown1 hg1
 have b1 := b0.grown hg1 (by simp [Value.ownBlock]; omega)
 have r1 := r0.grown hg1 (by simp [Value.ownBlock])
 have hx1 : Nx w w1 := Below.grown hnx0 hg1 hnx0.size (fun k hk => by simp [Value.ownBlock] at hk; omega)
 have hsz1 : w.heap.size + 1 + 1 + 1 ≤ w1.heap.size := by have := hg1.size; simpa using this
 clear b0 r0 m0 hnx0 hown0 hg1
 have b2 := b1.alloc (.cells #[ii x, .string t] 102)
 have r2 := r1.alloc (.cells #[ii x, .string t] 102)
 have hx2 := hx1.alloc (.cells #[ii x, .string t] 102)
 have n0 := Box.new w1 102 #[ii x, .string t]
 have hown2 := hown1.alloc (.cells #[ii x, .string t] 102)
 go_wp2_with (at_builtin; refine wpList_append_row rfl (.tmp 10) (.tmp 14) 33 rfl (w.heap.size + 1 + 1) 102 i0 _ 2 24 Tryz.underlying33 hi0 hz0 hz1 hz2 rfl (by omega) v1 n2 _ rfl hown2 (some ⟨w1.heap.size, 0, none⟩) 1 1 _ (oneW x t) rfl (box_row n0) (oneW_one x t) ?c1 ?c2 ?c3 ?_)
 case c1 => unfold maxLen; omega
 case c2 => omega
 case c3 => simp; omega
 intro v2 w2 hown3 hg2
 have hbs := owns_base hown1
 have b3 := b2.grown hg2 (fun e => by have := hbs _ e.symm; omega)
 have r3 := r2.grown hg2 (fun e => by have := hbs _ e.symm; omega)
 have hx3 : Nx w w2 := Below.grown hx2 hg2 hx2.size (fun k hk => by have := hbs k hk; omega)
 have hl2 := wr_list ws x t
 rw [h2.1] at hl2
 rw [show ([oneW x t 0, oneW x t 1] : List Value) = (List.range 2).map (oneW x t) from rfl, hl2] at hown3
 obtain ⟨g, cap, rfl, hg, ho⟩ := own_of_owns hown3 (by omega) rfl
 clear b2 r2 hx2 n0 hown2 hown1 hown3 hg2 hbs b1 r1 hl2
 have c0 := b3.c0
 have c1 := b3.c1
 have f1 := b3.frozen 1
 have s0 := r3.c0
 have s1 := r3.c1
 have k0 := r3.frozen 0
 have k1 := r3.frozen 1
 have olt := ho.lt
 go_wp2
 have b4 := b3.set1 (.slice (some ⟨g, 0, none⟩) (n2 + 1) cap)
 have r4 := r3.far (p := ⟨w.heap.size, 1, none⟩) (by simp) (.slice (some ⟨g, 0, none⟩) (n2 + 1) cap)
 have o4 := ho.far (p := ⟨w.heap.size, 1, none⟩) (by simp; omega) (.slice (some ⟨g, 0, none⟩) (n2 + 1) cap)
 have hx4 := hx3.setCell (p := ⟨w.heap.size, 1, none⟩) (by simp) (.slice (some ⟨g, 0, none⟩) (n2 + 1) cap)
 have q := (r4.set0 (.slice A n c)).set1 (.slice (some ⟨g, 0, none⟩) (n2 + 1) cap)
 have q0 := q.c0
 have q1 := q.c1
 have o5 := (o4.far (p := ⟨w.heap.size + 1, 0, none⟩) (by simp; omega) (.slice A n c)).far (p := ⟨w.heap.size + 1, 1, none⟩) (by simp; omega) (.slice (some ⟨g, 0, none⟩) (n2 + 1) cap)
 have hx5 := (hx4.setCell (p := ⟨w.heap.size + 1, 0, none⟩) (by simp) (.slice A n c)).setCell (p := ⟨w.heap.size + 1, 1, none⟩) (by simp) (.slice (some ⟨g, 0, none⟩) (n2 + 1) cap)
 generalize ((w2.setCell ⟨w.heap.size, 1, none⟩ (.slice (some ⟨g, 0, none⟩) (n2 + 1) cap)).setCell ⟨w.heap.size + 1, 0, none⟩ (.slice A n c)).setCell ⟨w.heap.size + 1, 1, none⟩ (.slice (some ⟨g, 0, none⟩) (n2 + 1) cap) = Wf at *
 exact bodyPost_ret (v := .agg #[.slice A n c, .slice (some ⟨g, 0, none⟩) (n2 + 1) cap]) (by simp [results, Tryz.results131, go_sem, q0, q1]) rfl
  ⟨_, n2 + 1, cap, rfl, ⟨by rw [List.length_append, h2.1]; rfl, fun _ => ⟨g, rfl, by omega, by unfold OwnW; rw [List.length_append, h2.1]; exact o5⟩⟩, hx5⟩
theorem l01Own_c (A A2 : Option Addr) (n c n2 c2 B : Nat) (ss : List BA) (ws : List (Int × BA)) (w : World) (h : Strs w B A n ss) (h2 : Wrs w B A2 n2 ws) (hB : B ≤ w.heap.size) (hn : n ≤ 1048576) (hn2 : n2 ≤ 1048576) :
 Calls Tryz.prog 59 #[.agg #[.slice A n c, .slice A2 n2 c2]] w (RetDisk w ss ws) := by
 obtain ⟨i0, hi0, hz0, hz1, hz2⟩ := info_parts info_wr
 obtain ⟨j0, hj0, hy0, hy1, hy2⟩ := info_parts info_str
 go_enter Tryz.func59, Tryz.ntmps59
 go_wp2_with fail
 have b0 := (Box.new w 35 #[.slice A n c, .slice A2 n2 c2]).alloc (.cells #[nsl, nsl] 35)
 have r0 := Box.new (w.alloc (.cells #[.slice A n c, .slice A2 n2 c2] 35)) 35 #[nsl, nsl]
 have hnx0 := ((Nx.refl w).alloc (.cells #[.slice A n c, .slice A2 n2 c2] 35)).alloc (.cells #[nsl, nsl] 35)
 simp only [World.size_alloc] at r0
 generalize (w.alloc (.cells #[.slice A n c, .slice A2 n2 c2] 35)).alloc (.cells #[nsl, nsl] 35) = W at *
 have c0 := b0.c0
 have c1 := b0.c1
 have hne := World.new_ne W _ c0
 go_region_held3 (fun w' => w'.cell? ⟨w.heap.size, 0, none⟩ = some (.slice A n c) ∧ w'.cell? ⟨w.heap.size, 1, none⟩ = some (.slice A2 n2 c2)) (first | exact ⟨c0, c1⟩ | exact ⟨Box.c0 (b0.alloc _), Box.c1 (b0.alloc _)⟩ | exact ⟨Box.c0 ((b0.alloc _).alloc _), Box.c1 ((b0.alloc _).alloc _)⟩ | exact ⟨Box.c0 bu, Box.c1 bu⟩ | exact ⟨Box.c0 (bu.alloc _), Box.c1 (bu.alloc _)⟩ | exact ⟨Box.c0 bv, Box.c1 bv⟩ | exact ⟨z0, z1⟩)
  (first
   | (refine step_append_new ?_ (.tmp 3) (.tmp 5) 32 ?_ 9 j0 _ 1 16 Tryz.underlying32 hj0 hy0 hy1 hy2 (by decide) (by decide) (W.heap.size) A n c B (strAt ss) ?_ ?_ ?_ hn ?_
      · rfl
      · rfl
      · rfl
      · rfl
      · rw [Nat.mul_one]; refine (h.below (B' := w.heap.size) ?_ hB).2; first | exact (hnx0.alloc _).drew | exact ((hnx0.alloc _).alloc _).drew
      intro A3 c3 u1 hN3
      have bu : Box u1 w.heap.size 35 #[.slice A n c, .slice A2 n2 c2] := by refine Box.nx ?_ hN3.1; first | exact b0.alloc _ | exact (b0.alloc _).alloc _
      have ru : Box u1 (w.heap.size + 1) 35 #[nsl, nsl] := by refine Box.nx ?_ hN3.1; first | exact r0.alloc _ | exact (r0.alloc _).alloc _
      have xu : Nx w u1 := by refine Nx.trans ?_ hN3.1; first | exact (hnx0.alloc _).drew | exact ((hnx0.alloc _).alloc _).drew)
   | (refine step_append_new ?_ (.tmp 3) (.tmp 5) 32 ?_ 9 j0 _ 1 16 Tryz.underlying32 hj0 hy0 hy1 hy2 (by decide) (by decide) (W.heap.size + 1) A n c B (strAt ss) ?_ ?_ ?_ hn ?_
      · rfl
      · rfl
      · rfl
      · rfl
      · rw [Nat.mul_one]; refine (h.below (B' := w.heap.size) ?_ hB).2; first | exact (hnx0.alloc _).drew | exact ((hnx0.alloc _).alloc _).drew
      intro A3 c3 u1 hN3
      have bu : Box u1 w.heap.size 35 #[.slice A n c, .slice A2 n2 c2] := by refine Box.nx ?_ hN3.1; first | exact b0.alloc _ | exact (b0.alloc _).alloc _
      have ru : Box u1 (w.heap.size + 1) 35 #[nsl, nsl] := by refine Box.nx ?_ hN3.1; first | exact r0.alloc _ | exact (r0.alloc _).alloc _
      have xu : Nx w u1 := by refine Nx.trans ?_ hN3.1; first | exact (hnx0.alloc _).drew | exact ((hnx0.alloc _).alloc _).drew)
   | (refine step_append_new ?_ (.tmp 7) (.tmp 9) 33 ?_ 102 i0 _ 2 24 Tryz.underlying33 hi0 hz0 hz1 hz2 (by decide) (by decide) (u1.heap.size) A2 n2 c2 B (wrAt ws) ?_ ?_ ?_ hn2 ?_
      · rfl
      · rfl
      · rfl
      · rfl
      · refine (h2.below (B' := w.heap.size) ?_ hB).2; first | exact xu | exact xu.alloc _
      intro A4 c4 u2 hN4
      have bv : Box u2 w.heap.size 35 #[.slice A n c, .slice A2 n2 c2] := by refine Box.nx ?_ hN4.1; first | exact bu | exact bu.alloc _
      have rv : Box u2 (w.heap.size + 1) 35 #[nsl, nsl] := by refine Box.nx ?_ hN4.1; first | exact ru | exact ru.alloc _
      have xv : Nx w u2 := by refine Nx.trans ?_ hN4.1; first | exact xu | exact xu.alloc _
      have s0 := rv.c0
      have s1 := rv.c1
      have f0 := rv.frozen 0
      have f1 := rv.frozen 1
      have z0 := (((bv.far (p := ⟨w.heap.size + 1, 0, none⟩) (by simp) (.slice A3 n c3))).far (p := ⟨w.heap.size + 1, 1, none⟩) (by simp) (.slice A4 n2 c4)).c0
      have z1 := (((bv.far (p := ⟨w.heap.size + 1, 0, none⟩) (by simp) (.slice A3 n c3))).far (p := ⟨w.heap.size + 1, 1, none⟩) (by simp) (.slice A4 n2 c4)).c1)
   | (refine step_append_new ?_ (.tmp 7) (.tmp 9) 33 ?_ 102 i0 _ 2 24 Tryz.underlying33 hi0 hz0 hz1 hz2 (by decide) (by decide) (W.heap.size + 1) A2 n2 c2 B (wrAt ws) ?_ ?_ ?_ hn2 ?_
      · rfl
      · rfl
      · rfl
      · rfl
      · refine (h2.below (B' := w.heap.size) ?_ hB).2; first | exact xu | exact xu.alloc _
      intro A4 c4 u2 hN4
      have bv : Box u2 w.heap.size 35 #[.slice A n c, .slice A2 n2 c2] := by refine Box.nx ?_ hN4.1; first | exact bu | exact bu.alloc _
      have rv : Box u2 (w.heap.size + 1) 35 #[nsl, nsl] := by refine Box.nx ?_ hN4.1; first | exact ru | exact ru.alloc _
      have xv : Nx w u2 := by refine Nx.trans ?_ hN4.1; first | exact xu | exact xu.alloc _
      have s0 := rv.c0
      have s1 := rv.c1
      have f0 := rv.frozen 0
      have f1 := rv.frozen 1
      have z0 := (((bv.far (p := ⟨w.heap.size + 1, 0, none⟩) (by simp) (.slice A3 n c3))).far (p := ⟨w.heap.size + 1, 1, none⟩) (by simp) (.slice A4 n2 c4)).c0
      have z1 := (((bv.far (p := ⟨w.heap.size + 1, 0, none⟩) (by simp) (.slice A3 n c3))).far (p := ⟨w.heap.size + 1, 1, none⟩) (by simp) (.slice A4 n2 c4)).c1)
   | (refine step_append_new ?_ (.tmp 7) (.tmp 9) 33 ?_ 102 i0 _ 2 24 Tryz.underlying33 hi0 hz0 hz1 hz2 (by decide) (by decide) (W.heap.size) A2 n2 c2 B (wrAt ws) ?_ ?_ ?_ hn2 ?_
      · rfl
      · rfl
      · rfl
      · rfl
      · refine (h2.below (B' := w.heap.size) ?_ hB).2; first | exact xu | exact xu.alloc _
      intro A4 c4 u2 hN4
      have bv : Box u2 w.heap.size 35 #[.slice A n c, .slice A2 n2 c2] := by refine Box.nx ?_ hN4.1; first | exact bu | exact bu.alloc _
      have rv : Box u2 (w.heap.size + 1) 35 #[nsl, nsl] := by refine Box.nx ?_ hN4.1; first | exact ru | exact ru.alloc _
      have xv : Nx w u2 := by refine Nx.trans ?_ hN4.1; first | exact xu | exact xu.alloc _
      have s0 := rv.c0
      have s1 := rv.c1
      have f0 := rv.frozen 0
      have f1 := rv.frozen 1
      have z0 := (((bv.far (p := ⟨w.heap.size + 1, 0, none⟩) (by simp) (.slice A3 n c3))).far (p := ⟨w.heap.size + 1, 1, none⟩) (by simp) (.slice A4 n2 c4)).c0
      have z1 := (((bv.far (p := ⟨w.heap.size + 1, 0, none⟩) (by simp) (.slice A3 n c3))).far (p := ⟨w.heap.size + 1, 1, none⟩) (by simp) (.slice A4 n2 c4)).c1)
   )
 all_goals
  have l0 := r0.lt
  have l1 := ru.lt
  have n12 : Nx u1 u2 := by first | exact hN4.1 | exact ((Nx.refl u1).alloc _).trans hN4.1
  have hS3 := ((hN3.slS h.1).low (lo' := w.heap.size + 1 + 1) (by first | omega | (simp; omega))).nx n12
  have hW4 := (hN4.slW h2.1).low (lo' := w.heap.size + 1 + 1) (by first | omega | (simp; omega))
  obtain ⟨q0, q1, hSf, hWf, hxf⟩ := fin_box c3 c4 rv hS3 hW4 (by omega) (by omega) xv (by omega)
  clear z0 z1 s0 s1 f0 f1 c0 c1
  generalize (u2.setCell ⟨w.heap.size + 1, 0, none⟩ (.slice A3 n c3)).setCell ⟨w.heap.size + 1, 1, none⟩ (.slice A4 n2 c4) = Wf at *
  go_wp2
  exact bodyPost_ret (v := .agg #[.slice A3 n c3, .slice A4 n2 c4]) (by simp [results, Tryz.results59, go_sem, q0, q1]) rfl ⟨A3, n, c3, A4, n2, c4, rfl, hSf, hWf, hxf⟩
def settleTo (kp : Nat → Bool) (ss : List BA) (ws : List (Int × BA)) : Nat → List BA
 | 0 => ss
 | k + 1 => if kp k = true then (settleTo kp ss ws k).set (ws.getD k (0, ByteArray.empty)).1.toNat (ws.getD k (0, ByteArray.empty)).2 else settleTo kp ss ws k
theorem settleTo_len (kp : Nat → Bool) (ss : List BA) (ws : List (Int × BA)) (k : Nat) : (settleTo kp ss ws k).length = ss.length := by
 induction k with
 | zero => rfl
 | succ k ih => unfold settleTo; split <;> simp [ih]
def kpOf (bs : List Bool) (i : Nat) : Bool := bs.getD (i % bs.length) false
theorem strAt_set (ss : List BA) (a : Nat) (s : BA) (ha : a < ss.length) (i : Nat) : strAt (ss.set a s) i = if i = a then .string s else strAt ss i := by
 unfold strAt
 rw [gdE, List.getElem?_set]
 by_cases h : a = i
 · subst h; rw [if_pos rfl, if_pos rfl, if_pos ha]; rfl
 · rw [if_neg h, if_neg (fun e => h e.symm), ← gdE]
theorem wOk_at {ws : List (Int × BA)} {k : Nat} {x : Int} {s : BA} (h : ws.all wOk = true) (hk : k < ws.length) (hx : ws.getD k (0, ByteArray.empty) = (x, s)) : ∃ a : Nat, x = a ∧ a < 64 := by
 rw [List.all_eq_true] at h
 have : ws[k] = (x, s) := by rw [← hx, gdE, List.getElem?_eq_getElem hk]; rfl
 have := h _ (List.getElem_mem hk)
 rw [‹ws[k] = (x, s)›] at this
 unfold wOk secB at this
 simp only [Bool.and_eq_true, decide_eq_true_eq] at this
 exact ⟨x.toNat, by omega, by omega⟩
theorem settle_yes {kp : Nat → Bool} {ss : List BA} {ws : List (Int × BA)} {k a : Nat} {s : BA} (hk : kp k = true) (hx : ws.getD k (0, ByteArray.empty) = ((a : Int), s)) : settleTo kp ss ws (k + 1) = (settleTo kp ss ws k).set a s := by
 show (if kp k = true then _ else _) = _
 rw [if_pos hk, hx]; simp
theorem settle_no {kp : Nat → Bool} {ss : List BA} {ws : List (Int × BA)} {k : Nat} (hk : kp k = false) : settleTo kp ss ws (k + 1) = settleTo kp ss ws k := by
 show (if kp k = true then _ else _) = _
 rw [if_neg (by simp [hk])]
def SetRow (w : World) (g : Nat) (ss : List BA) : Prop := Own w g 9 64 (strAt ss)
theorem SetRow.set {w : World} {g a : Nat} {ss : List BA} {s : BA} (h : SetRow w g ss) (ha : a < 64) (hl : ss.length = 64) : SetRow (w.setCell ⟨g, a, none⟩ (.string s)) g (ss.set a s) := by
 unfold SetRow at h ⊢
 refine (h.set ha (.string s)).congr fun i _ => ?_
 rw [strAt_set ss a s (by omega) i]
theorem settled_c (A A2 A3 : Option Addr) (c n2 c2 m c3 B : Nat) (ss : List BA) (ws : List (Int × BA)) (bs : List Bool) (w : World) (h : Strs w B A 64 ss) (h2 : Wrs w B A2 n2 ws) (h3 : Bls w B A3 m bs) (hB : B ≤ w.heap.size) (hn2 : n2 ≤ 80) (hm : 0 < m) (hm2 : m ≤ 1048576) (hall : ws.all wOk = true) :
 Calls Tryz.prog 128 #[.agg #[.slice A 64 c, .slice A2 n2 c2], .slice A3 m c3] w (RetDisk w (settleTo (kpOf bs) ss ws n2) []) := by
 have HA := qh hall
 clear hall
 go_enter Tryz.func128, Tryz.ntmps128
 go_wp2_with fail
 have b0 := (Box.new w 35 #[.slice A 64 c, .slice A2 n2 c2]).alloc (.cells #[nsl, nsl] 35)
 have r0 := Box.new (w.alloc (.cells #[.slice A 64 c, .slice A2 n2 c2] 35)) 35 #[nsl, nsl]
 have hnx0 := ((Nx.refl w).alloc (.cells #[.slice A 64 c, .slice A2 n2 c2] 35)).alloc (.cells #[nsl, nsl] 35)
 simp only [World.size_alloc] at r0
 generalize (w.alloc (.cells #[.slice A 64 c, .slice A2 n2 c2] 35)).alloc (.cells #[nsl, nsl] 35) = W at *
 refine (copyListS_c A 64 c B ss _ (h.below hnx0 hB) (ntr hB hnx0.size) (by omega)).mono ?_
 rintro e w1 ⟨A4, n4, c4, rfl, hS4, hx4⟩
 obtain rfl : 64 = n4 := h.1.symm.trans hS4.1
 obtain ⟨g, rfl, hg, ho⟩ := hS4.2 (by omega)
 have b1 := b0.nx hx4
 have r1 := r0.nx hx4
 have hx1 := hnx0.trans hx4
 have l0 := r0.lt
 have HL := qh h.1
 have hset : SetRow w1 g ss := by unfold SetRow; unfold OwnS at ho; rw [h.1] at ho; exact ho
 clear b0 r0 hnx0 hx4 hS4 ho
 have c0 := b1.c0
 have c1 := b1.c1
 go_wp2
 go_loopw [14] (fun i wr => ∃ k : Nat, k ≤ n2 ∧ i = ii k ∧ SetRow wr g (settleTo (kpOf bs) ss ws k) ∧ Rg g (g + 1) w1 wr) (fun i _ => n2 - (intOf i).toNat)
 case atStart => exact ⟨0, Nat.zero_le _, rfl, hset, Rg.of_nx (Nx.refl _)⟩
 case round =>
  clear c0 c1 hset
  obtain ⟨k, hk, rfl, hset, hr⟩ := hrel
  have hx := Rg.nx_of hx1 hr (by omega)
  by_cases hlt : k < n2
  · obtain ⟨b, off, rfl, hb, hc, hd⟩ := (h2.below hx hB).at_ hlt
    obtain ⟨⟨x, s⟩, Hs⟩ : ∃ s, Hid (ws.getD k (0, ByteArray.empty) = s) := ⟨_, rfl⟩
    rw [Hs.out] at hc hd
    have hkm : k % m < m := Nat.mod_lt _ hm
    obtain ⟨b3, off3, rfl, hb3, hc3⟩ := (h3.below (hx.alloc (.cells #[ii x, .string s] 102)) hB).at_ hkm
    obtain ⟨a, rfl, ha⟩ := wOk_at HA.out (by rw [h2.1]; exact hlt) Hs.out
    have hs1 : SetRow (wr.alloc (.cells #[ii (a : Int), .string s] 102)) g (settleTo (kpOf bs) ss ws k) := Own.alloc hset _
    have hlen := qh ((settleTo_len (kpOf bs) ss ws k).trans HL.out)
    have hr1 : Rg g (g + 1) w1 (wr.alloc (.cells #[ii (a : Int), .string s] 102)) := hr.trans (Rg.of_nx ((Nx.refl wr).alloc _))
    obtain ⟨v, hv⟩ : ∃ v, (wr.alloc (.cells #[ii (a : Int), .string s] 102)).cell? ⟨g, a, none⟩ = some v := ⟨_, Own.cell hs1 ha⟩
    have hz := Own.frozen hs1 a
    have hkp : kpOf bs k = bs.getD (k % m) false := by unfold kpOf; rw [h3.1]
    cases hbb : bs.getD (k % m) false with
    | true =>
      have HF := qh (settle_yes (ss := ss) (hkp.trans hbb) Hs.out)
      rw [hbb] at hc3
      clear hkp hbb
      go_wp2
      go_roundw
      case rel => exact ⟨k + 1, by omega, by go_num, by rw [HF.out]; exact hs1.set ha hlen.out, hr1.setCell (p := ⟨g, a, none⟩) nle (by simp) _⟩
      case measure => simp [intOf]; omega
    | false =>
      have HF := qh (settle_no (ss := ss) (ws := ws) (hkp.trans hbb))
      rw [hbb] at hc3
      clear hkp hbb
      go_wp2
      go_roundw
      case rel => exact ⟨k + 1, by omega, by go_num, by rw [HF.out]; exact hs1, hr1⟩
      case measure => simp [intOf]; omega
  · obtain rfl : k = n2 := by omega
    have r2 := r1.rg hr (.inl (by omega))
    have s0 := r2.c0
    have s1 := r2.c1
    have f0 := r2.frozen 0
    have f1 := r2.frozen 1
    have hlen := (settleTo_len (kpOf bs) ss ws k).trans HL.out
    have hSs : SlS wr g (some ⟨g, 0, none⟩) 64 (settleTo (kpOf bs) ss ws k) := ⟨hlen, fun _ => ⟨g, rfl, Nat.le_refl _, by unfold OwnS; rw [hlen]; exact hset⟩⟩
    clear hlen
    go_wp2
    obtain ⟨q0, q1, hSf, hWf, hxf⟩ := fin_box c4 0 r2 hSs (SlW.nil wr (w.heap.size + 1 + 1)) (by omega) (by omega) hx (by omega)
    generalize (wr.setCell ⟨w.heap.size + 1, 0, none⟩ (.slice (some ⟨g, 0, none⟩) 64 c4)).setCell ⟨w.heap.size + 1, 1, none⟩ (nsl) = Wf at *
    exact bodyPost_ret (v := .agg #[.slice (some ⟨g, 0, none⟩) 64 c4, nsl]) (by simp [results, Tryz.results128, go_sem, q0, q1]) rfl ⟨_, 64, c4, none, 0, 0, rfl, hSf, hWf, hxf⟩
def kpAll (i : Nat) : Bool := true
theorem l01Flush_c (A A2 : Option Addr) (c n2 c2 B : Nat) (ss : List BA) (ws : List (Int × BA)) (w : World) (h : Strs w B A 64 ss) (h2 : Wrs w B A2 n2 ws) (hB : B ≤ w.heap.size) (hn2 : n2 ≤ 80) (hall : ws.all wOk = true) :
 Calls Tryz.prog 60 #[.agg #[.slice A 64 c, .slice A2 n2 c2]] w (RetDisk w (settleTo (kpAll) ss ws n2) []) := by
 have HA := qh hall
 clear hall
 obtain ⟨j0, hj0, hy0, hy1, hy2⟩ := info_parts info_str
 have b0 := ((Box.new w 35 #[.slice A 64 c, .slice A2 n2 c2]).alloc (.cells #[nsl, nsl] 35)).alloc (.cells #[] 9)
 have r0 := (Box.new (w.alloc (.cells #[.slice A 64 c, .slice A2 n2 c2] 35)) 35 #[nsl, nsl]).alloc (.cells #[] 9)
 have hnx0 := (((Nx.refl w).alloc (.cells #[.slice A 64 c, .slice A2 n2 c2] 35)).alloc (.cells #[nsl, nsl] 35)).alloc (.cells #[] 9)
 simp only [World.size_alloc] at r0
 have HL := qh h.1
 go_enter Tryz.func60, Tryz.ntmps60
 go_wp2_with (at_builtin; refine wpList_append_new rfl (.tmp 5) (.tmp 7) 32 rfl 9 j0 _ 1 16 Tryz.underlying32 hj0 hy0 hy1 hy2 (by decide) (by decide) (w.heap.size + 1 + 1) A 64 c B (strAt ss) rfl rfl (by rw [Nat.mul_one]; exact (h.below hnx0 hB).2) (by omega) ?_)
 intro A4 c4 u1 hN
 obtain ⟨g, rfl, hg, ho⟩ := hN.2 (by omega)
 rw [Nat.mul_one] at ho
 have hset : SetRow u1 g ss := ho
 have hg2 := ho.lt
 have hg1 : w.heap.size + 1 + 1 + 1 ≤ g := by simpa using hg
 have b1 := b0.nx hN.1
 have r1 := r0.nx hN.1
 have hx1 := hnx0.trans hN.1
 clear b0 r0 hnx0 hN hg ho
 have c0 := b1.c0
 have c1 := b1.c1
 go_wp2
 have b2 := (b1.alloc (.cells #[] 102)).alloc (.cells #[.slice (some ⟨g, 0, none⟩) 64 c4, .slice (some ⟨u1.heap.size, 0, none⟩) 0 0] 35)
 have r2 := (r1.alloc (.cells #[] 102)).alloc (.cells #[.slice (some ⟨g, 0, none⟩) 64 c4, .slice (some ⟨u1.heap.size, 0, none⟩) 0 0] 35)
 have o2 := Box.new (u1.alloc (.cells #[] 102)) 35 #[.slice (some ⟨g, 0, none⟩) 64 c4, .slice (some ⟨u1.heap.size, 0, none⟩) 0 0]
 have hx2 := (hx1.alloc (.cells #[] 102)).alloc (.cells #[.slice (some ⟨g, 0, none⟩) 64 c4, .slice (some ⟨u1.heap.size, 0, none⟩) 0 0] 35)
 have hset2 : SetRow ((u1.alloc (.cells #[] 102)).alloc (.cells #[.slice (some ⟨g, 0, none⟩) 64 c4, .slice (some ⟨u1.heap.size, 0, none⟩) 0 0] 35)) g ss := Own.alloc (Own.alloc hset _) _
 simp only [World.size_alloc] at o2
 generalize (u1.alloc (.cells #[] 102)).alloc (.cells #[.slice (some ⟨g, 0, none⟩) 64 c4, .slice (some ⟨u1.heap.size, 0, none⟩) 0 0] 35) = U at *
 clear b1 r1 hx1 hset c0 c1
 go_loopw [4] (fun i wr => ∃ k : Nat, k ≤ n2 ∧ i = ii k ∧ SetRow wr g (settleTo (kpAll) ss ws k) ∧ Rg g (g + 1) U wr) (fun i _ => n2 - (intOf i).toNat)
 case atStart => exact ⟨0, Nat.zero_le _, rfl, hset2, Rg.of_nx (Nx.refl _)⟩
 case round =>
  clear hset2
  obtain ⟨k, hk, rfl, hset, hr⟩ := hrel
  have hx := Rg.nx_of hx2 hr (by omega)
  have b3 := b2.rg hr (.inl (by omega))
  have o3 := o2.rg hr (.inr (by omega))
  have c0 := b3.c0
  have c1 := b3.c1
  have e0 := o3.c0
  have e1 := o3.c1
  by_cases hlt : k < n2
  · obtain ⟨b, off, rfl, hb, hc, hd⟩ := (h2.below hx hB).at_ hlt
    obtain ⟨⟨x, s⟩, Hs⟩ : ∃ s, Hid (ws.getD k (0, ByteArray.empty) = s) := ⟨_, rfl⟩
    rw [Hs.out] at hc hd
    obtain ⟨a, rfl, ha⟩ := wOk_at HA.out (by rw [h2.1]; exact hlt) Hs.out
    have hlen := qh ((settleTo_len (kpAll) ss ws k).trans HL.out)
    obtain ⟨v, hv⟩ : ∃ v, wr.cell? ⟨g, a, none⟩ = some v := ⟨_, Own.cell hset ha⟩
    have hz := Own.frozen hset a
    have hai : ((a : Int)) < 64 := by omega
    have HF := qh (settle_yes (kp := kpAll) (ss := ss) (k := k) rfl Hs.out)
    go_wp2_with fail
    go_still_tail 15, (by kernel_rfl)
    change wpList _ _ _ _ _ wr.drew
    have hsd : SetRow wr.drew g (settleTo (kpAll) ss ws k) := hset
    have hrd : Rg g (g + 1) U wr.drew := hr.trans (Rg.of_nx (Nx.refl wr).drew)
    have hvd : wr.drew.cell? ⟨g, a, none⟩ = some v := hv
    have hzd : wr.drew.frozen? ⟨g, a, none⟩ = false := hz
    clear hv hz hset hr hc hd c0 c1 e0 e1 b3 o3 hx
    generalize wr.drew = wd at *
    go_wp2
    go_roundw
    case rel => exact ⟨k + 1, by omega, by go_num, by rw [HF.out]; exact hsd.set ha hlen.out, hrd.setCell (p := ⟨g, a, none⟩) nle (by simp) _⟩
    case measure => simp [intOf]; omega
  · obtain rfl : k = n2 := by omega
    have r3 := r2.rg hr (.inl (by omega))
    have s0 := r3.c0
    have s1 := r3.c1
    have f0 := r3.frozen 0
    have f1 := r3.frozen 1
    have hlen := (settleTo_len (kpAll) ss ws k).trans HL.out
    have hSs : SlS wr g (some ⟨g, 0, none⟩) 64 (settleTo (kpAll) ss ws k) := ⟨hlen, fun _ => ⟨g, rfl, Nat.le_refl _, by unfold OwnS; rw [hlen]; exact hset⟩⟩
    have hWs : SlW wr g (some ⟨u1.heap.size, 0, none⟩) 0 [] := ⟨rfl, fun h => absurd h (by omega)⟩
    clear hlen
    go_wp2
    obtain ⟨q0, q1, hSf, hWf, hxf⟩ := fin_box c4 0 r3 hSs hWs (by omega) (by omega) hx (by omega)
    generalize (wr.setCell ⟨w.heap.size + 1, 0, none⟩ (.slice (some ⟨g, 0, none⟩) 64 c4)).setCell ⟨w.heap.size + 1, 1, none⟩ (.slice (some ⟨u1.heap.size, 0, none⟩) 0 0) = Wf at *
    exact bodyPost_ret (v := .agg #[.slice (some ⟨g, 0, none⟩) 64 c4, .slice (some ⟨u1.heap.size, 0, none⟩) 0 0]) (by simp [results, Tryz.results60, go_sem, q0, q1]) rfl ⟨_, 64, c4, _, 0, 0, rfl, hSf, hWf, hxf⟩
theorem settle_at {ss : List BA} {ws : List (Int × BA)} {a : Nat} (ha : a < ss.length) (h : ws.all wOk = true) (h64 : ss.length = 64) : ∀ k, k ≤ ws.length → (settleTo kpAll ss ws k).length = ss.length ∧ (settleTo kpAll ss ws k).getD a ByteArray.empty = (findLast ws a k).getD (ss.getD a ByteArray.empty)
 | 0, _ => ⟨rfl, rfl⟩
 | k + 1, hk => by
   obtain ⟨hl, hg⟩ := settle_at ha h h64 k (by omega)
   have hk' : k < ws.length := by omega
   have hw := List.all_eq_true.1 h _ (List.getElem_mem hk')
   have he : ws.getD k (0, ByteArray.empty) = ws[k] := by rw [gdE, List.getElem?_eq_getElem hk']; rfl
   unfold wOk secB at hw
   simp only [Bool.and_eq_true, decide_eq_true_eq] at hw
   rw [settleTo, findLast]
   simp only [kpAll, if_true, he]
   refine ⟨by simp [hl], ?_⟩
   rw [gdE, List.getElem?_set]
   by_cases hx : ws[k].1.toNat = a
   · have hb : (ws[k].1 == (a : Int)) = true := by rw [beq_iff_eq]; omega
     rw [if_pos hx, if_pos (by omega), if_pos hb]; rfl
   · have hb : ¬ (ws[k].1 == (a : Int)) = true := by rw [beq_iff_eq]; omega
     rw [if_neg hx, if_neg hb, ← gdE, hg]
theorem readP_flush {ss : List BA} {ws : List (Int × BA)} (h : diskB ss ws = true) {a : Nat} (ha : a < 64) : readP (settleTo kpAll ss ws ws.length) [] a = readP ss ws a := by
 obtain ⟨h1, _, _, h4⟩ := diskB_len64 h
 have := (settle_at (a := a) (by omega) h4 h1 ws.length nle).2
 unfold readP
 rw [← this]; rfl
def nxtS (u : U6) (b p t : Int) (xs : List Int) (ms : List Mrk) : BA := sealS (numsS (supN (u.1 + 1) b p t xs) ++ ⟨#[124]⟩ ++ jn (wds ms))
theorem nxt_super {g b p t : Int} {xs : List Int} {ms : List Mrk} {u : U6} (h : superB g b p t xs ms = true) (hu : 1 ≤ u.1 ∧ u.1 ≤ 999999) (hm : u.1 ≠ 999999) : superB (u.1 + 1) b p t xs ms = true := by
 unfold superB at h ⊢
 simp only [Bool.and_eq_true] at h ⊢
 refine ⟨⟨⟨⟨⟨?_, h.1.1.1.1.2⟩, h.1.1.1.2⟩, h.1.1.2⟩, h.1.2⟩, h.2⟩
 unfold inB
 simp only [Bool.and_eq_true, decide_eq_true_eq]
 omega
theorem newU_gen {o0 o1 : Option U6} {t0 t1 : BA} (h0 : o0 = rdU t0) (h1 : o1 = rdU t1) {u : U6} {s : Int} (h : newU o0 o1 = some (u, s)) : 1 ≤ u.1 ∧ u.1 ≤ 999999 := by
 obtain ⟨g, b, p, q, xs, ms⟩ := u
 rcases newU_from h with e | e
 · rw [h0] at e; exact (superB_yes (rdU_super e)).1
 · rw [h1] at e; exact (superB_yes (rdU_super e)).1
def cmP (ss : List BA) (ws : List (Int × BA)) (g b p t : Int) (xs : List Int) (ms : List Mrk) : (List BA × List (Int × BA)) × Int :=
 if diskB ss ws && superB g b p t xs ms then
  (match newU (rdU (readP ss ws 0)) (rdU (readP ss ws 1)) with
  | none => ((ss, ws), 19)
  | some (u, s) => if u.1 = 999999 then ((ss, ws), 7) else ((settleTo kpAll (settleTo kpAll ss ws ws.length) [(1 - s, nxtS u b p t xs ms)] 1, []), 0))
 else (([], []), 1)
def freeTo (xs : List Int) (k : Nat) : List Int := ((List.range k).map fun i : Nat => (i : Int) + 10).filter fun x => !hasB xs xs.length x
theorem freeTo_yes {xs : List Int} {k : Nat} (h : hasB xs xs.length ((k : Int) + 10) = false) : freeTo xs (k + 1) = freeTo xs k ++ [(k : Int) + 10] := by
 unfold freeTo
 rw [List.range_succ, List.map_append, List.filter_append]
 simp [h]
theorem freeTo_no {xs : List Int} {k : Nat} (h : hasB xs xs.length ((k : Int) + 10) = true) : freeTo xs (k + 1) = freeTo xs k := by
 unfold freeTo
 rw [List.range_succ, List.map_append, List.filter_append]
 simp [h]
theorem freeTo_len (xs : List Int) (k : Nat) : (freeTo xs k).length ≤ k := by
 unfold freeTo
 refine ntr (List.length_filter_le _ _) ?_
 simp
theorem superFree_c (g b p t : Int) (A A2 : Option Addr) (c c2 B : Nat) (xs : List Int) (ms : List Mrk) (w : World) (h : Ins w B A xs) (hB : B ≤ w.heap.size) (hn : xs.length ≤ 1048576) :
 Calls Tryz.prog 62 #[.agg #[ii g, ii b, ii p, ii t, .slice A xs.length c, .slice A2 ms.length c2]] w (RetIc w (freeTo xs 54)) := by
 have b0 := Box.new w 26 #[ii g, ii b, ii p, ii t, .slice A xs.length c, .slice A2 ms.length c2]
 have hx0 := (Nx.refl w).alloc (.cells #[ii g, ii b, ii p, ii t, .slice A xs.length c, .slice A2 ms.length c2] 26)
 have hrow0 := RowI.nil (w.alloc (.cells #[ii g, ii b, ii p, ii t, .slice A xs.length c, .slice A2 ms.length c2] 26)) (w.heap.size + 1)
 have hx1 := hx0
 have hz1 : w.heap.size + 1 ≤ (w.alloc (.cells #[ii g, ii b, ii p, ii t, .slice A xs.length c, .slice A2 ms.length c2] 26)).heap.size := by simp
 go_enter Tryz.func62, Tryz.ntmps62
 go_wp2_with fail
 generalize w.alloc (.cells #[ii g, ii b, ii p, ii t, .slice A xs.length c, .slice A2 ms.length c2] 26) = W at *
 go_loopw [3, 4] (fun v i wr => ∃ (k : Nat), k ≤ 54 ∧ i = ii ((k : Int) + 10) ∧ (∃ u, u = v ∧ RowI wr (w.heap.size + 1) u (freeTo xs k)) ∧ Nx w wr ∧ Box wr w.heap.size 26 #[ii g, ii b, ii p, ii t, .slice A xs.length c, .slice A2 ms.length c2] ∧ w.heap.size + 1 ≤ wr.heap.size) (fun _ i _ => 64 - (intOf i).toNat)
 case atStart => exact ⟨0, by omega, rfl, ⟨_, rfl, hrow0⟩, hx1, b0, hz1⟩
 case round =>
  obtain ⟨k, hk, rfl, ⟨u, rfl, hrow⟩, hnx, hb, hsz⟩ := hrel
  clear hrow0 hx1 hz1 b0 hx0
  obtain ⟨_, _, _, _, c4, _⟩ := hb.d6
  have hil := freeTo_len xs k
  by_cases hlt : k < 54
  case neg =>
   obtain rfl : k = 54 := by omega
   obtain ⟨A', c', rfl, hc', hS⟩ := hrow.slc
   have hdl : decide (((54 : Nat) : Int) + 10 < 64) = false := by decide
   go_wp2
   go_ret
   exact ⟨A', c', rfl, hc', hS.low (by omega), hnx⟩
  have hdl : decide ((k : Int) + 10 < 64) = true := by simp; omega
  obtain ⟨q, Hq⟩ : ∃ q, Hid ((k : Int) + 10 = q) := ⟨_, rfl⟩
  have hq0 : 0 ≤ q := by have := Hq.out; omega
  have hq1 : q < 64 := by have := Hq.out; omega
  rw [Hq.out] at hdl ⊢
  clear hdl
  have hdq : decide (q < 64) = true := by simp; omega
  cases hh : hasB xs xs.length q with
  | true =>
    have HX := qh hh
    have HN := qh (freeTo_no (xs := xs) (k := k) (by rw [Hq.out]; exact hh))
    clear hh
    have HR := qh hrow
    clear hrow
    go_wp2_with (go_at_call 132; refine (contains_c A xs.length c B xs q _ (h.below hnx hB) nle hn).mono ?_; rintro e w' ⟨rfl, rfl⟩; rw [HX.out])
    go_roundw
    case rel => exact ⟨k + 1, by omega, by have := Hq.out; go_num, ⟨_, rfl, by rw [HN.out]; exact HR.out⟩, hnx, hb, hsz⟩
    case measure => have := Hq.out; simp [intOf]; omega
  | false =>
    have HX := qh hh
    have HN := qh (freeTo_yes (xs := xs) (k := k) (by rw [Hq.out]; exact hh))
    clear hh
    have hx2 := (Nx.refl wr).alloc (.cells #[ii q] 3)
    have hbx := Box.new wr 3 #[ii q]
    have hrow1 := hrow.nx hx2
    have hnx2 := hnx.trans hx2
    have hb2 := hb.nx hx2
    have hsz2 := ntr hsz hx2.size
    have HR := qh hrow1
    have HB := qh hbx
    clear hrow hrow1 hbx
    go_wp2_with (first | (go_at_call 132; refine (contains_c A xs.length c B xs q _ (h.below hnx hB) nle hn).mono ?_; rintro e w' ⟨rfl, rfl⟩; rw [HX.out]) | (at_builtin; refine wpList_addI rfl _ _ rfl (w.heap.size + 1) wr.heap.size _ (freeTo xs k) q rfl rfl HR.out HB.out (by omega) hsz2 ?_))
    intro A' k' w' hr' hg'
    have hnx3 := hg'.nx w hnx2 (by omega)
    have hb3 := hg'.box _ _ _ (by decide) hb2
    have hsz3 := ntr hsz2 hg'.size
    go_wp2
    go_roundw
    case rel => exact ⟨k + 1, by omega, by have := Hq.out; go_num, ⟨_, rfl, by rw [HN.out, Hq.out]; exact hr'⟩, hnx3, hb3, hsz3⟩
    case measure => have := Hq.out; simp [intOf]; omega
def RetIcC (w : World) (xs : List Int) (code : Int) (e : Ending) (w' : World) : Prop := ∃ (A : Option Addr) (c : Nat), e = .returned (.tuple #[.slice A xs.length c, ii code]) ∧ xs.length ≤ c ∧ SlI w' w.heap.size A xs ∧ Nx w w'
def frL (ok : Bool) (xs : List Int) : List Int := if ok = true then freeTo xs 54 else []
def frCd (ok : Bool) : Int := if ok = true then 0 else 1
theorem implFree_c (g b p t : Int) (A A2 : Option Addr) (c c2 B : Nat) (xs : List Int) (ms : List Mrk) (w : World) (h : Ins w B A xs) (h2 : Mks w B A2 ms) (hB : B ≤ w.heap.size) (hn : xs.length ≤ 1048576) (hn2 : ms.length ≤ 1048576) (hc : xs.length ≤ c) (hm : AllM ms) :
 Calls Tryz.prog 16 #[.agg #[ii g, ii b, ii p, ii t, .slice A xs.length c, .slice A2 ms.length c2]] w (RetIcC w (frL (superB g b p t xs ms) xs) (frCd (superB g b p t xs ms))) := by
 have b0 := Box.new w 26 #[ii g, ii b, ii p, ii t, .slice A xs.length c, .slice A2 ms.length c2]
 have hx0 := (Nx.refl w).alloc (.cells #[ii g, ii b, ii p, ii t, .slice A xs.length c, .slice A2 ms.length c2] 26)
 cases hs : superB g b p t xs ms with
 | false =>
   have HS := qh hs
   clear hs
   go_enter Tryz.func16, Tryz.ntmps16
   go_wp2_with fail
   generalize w.alloc (.cells #[ii g, ii b, ii p, ii t, .slice A xs.length c, .slice A2 ms.length c2] 26) = W at *
   refine (superRight_c g b p t A A2 c c2 B xs ms _ (h.below hx0 hB) (h2.below hx0 hB) (ntr hB hx0.size) hn hn2 hc hm).mono ?_
   rintro e w1 ⟨rfl, hnx1⟩
   rw [HS.out]
   have hx1 := hx0.trans hnx1
   go_wp2
   go_ret2
   exact ⟨_, _, rfl, Nat.le_refl _, Sl.none_ _ _ _ _ _, hx1⟩
 | true =>
 have HS := qh hs
 clear hs
 go_enter Tryz.func16, Tryz.ntmps16
 go_wp2_with fail
 generalize w.alloc (.cells #[ii g, ii b, ii p, ii t, .slice A xs.length c, .slice A2 ms.length c2] 26) = W at *
 refine (superRight_c g b p t A A2 c c2 B xs ms _ (h.below hx0 hB) (h2.below hx0 hB) (ntr hB hx0.size) hn hn2 hc hm).mono ?_
 rintro e w1 ⟨rfl, hnx1⟩
 rw [HS.out]
 have hx1 := hx0.trans hnx1
 obtain ⟨d0, d1, d2, d3, d4, d5⟩ := (b0.nx hnx1).d6
 go_wp2_with fail
 refine (superFree_c g b p t A A2 c c2 B xs ms _ (h.below hx1 hB) (ntr hB hx1.size) hn).mono ?_
 rintro e w2 ⟨A3, c3, rfl, hc3, hS, hnx2⟩
 have HC := qh hc3
 clear hc3
 go_wp2
 go_ret2
 exact ⟨A3, c3, rfl, HC.out, hS.low hx1.size, hx1.trans hnx2⟩
def Vl.tip (V : Vl) : Int := tipV V.b V.gs
def lastM (gs : List SgR) (t : Int) : Int := if 0 < gs.length then max t (gs.getD (gs.length - 1) sgZ).m else t
def Vl.top (V : Vl) : List Int := cntV V.b V.p V.t V.gs V.im V.tip
def newG (V : Vl) (p : Int) (n : Nat) (v t : Int) : SgR := ⟨p - 1, p, lastM V.gs t, none, 0, [((n : Int), v, V.top.getD n 0)]⟩
def segT (g : SgR) : BA := sealS (numsS (segN g.f g.t g.m g.cs))
def freeS (xs : List Int) : Int := (freeTo xs 54).getD 0 0
def sltV (ss : List BA) (ws : List (Int × BA)) : Int := match newU (rdU (readP ss ws 0)) (rdU (readP ss ws 1)) with
 | some (_, s) => s
 | none => 0
structure LdY (ss : List BA) (ws : List (Int × BA)) (V : Vl) : Prop where
 nu : newU (rdU (readP ss ws 0)) (rdU (readP ss ws 1)) = some ((V.g, V.b, V.p, V.t, V.xs, V.ms), sltV ss ws)
 slot : sltV ss ws = 0 ∨ sltV ss ws = 1
 ok : VltY V.g V.b V.p V.t V.xs V.ms V.gs V.im
 rd : ldOk ss ws (V.g, V.b, V.p, V.t, V.xs, V.ms) = true
 eq : V = ldW ss ws (V.g, V.b, V.p, V.t, V.xs, V.ms)
theorem LdY.v {ss : List BA} {ws : List (Int × BA)} {V : Vl} (h : LdY ss ws V) : ldV ss ws = (V, 0) := by
 have h2 : (ldW ss ws (V.g, V.b, V.p, V.t, V.xs, V.ms)).ok = true := by rw [← h.eq]; exact h.ok.b
 have := ldV_yes h.nu h.rd h2
 rw [← h.eq] at this
 exact this
theorem hasB_all (xs : List Int) (x : Int) : hasB xs xs.length x = xs.contains x := by unfold hasB; rw [List.take_length]
theorem filter_ne_len {y : Int} : ∀ {M : List Int}, M.Nodup → M.length ≤ (M.filter fun x => !(x == y)).length + 1
 | [], _ => by simp
 | x :: M, h => by
   obtain ⟨h1, h2⟩ := List.nodup_cons.1 h
   by_cases e : x = y
   · subst e
     have : M.filter (fun z => !(z == x)) = M := List.filter_eq_self.2 fun z hz => by
      simp only [Bool.not_eq_true', beq_eq_false_iff_ne]
      rintro rfl
      exact h1 hz
     simp [this]
   · have := filter_ne_len (y := y) h2
     simp [e]; simpa using this
theorem filter_len {L : List Int} (hL : L.Nodup) : ∀ xs : List Int, L.length ≤ (L.filter fun x => !xs.contains x).length + xs.length
 | [] => by
   have : L.filter (fun x => !([] : List Int).contains x) = L := List.filter_eq_self.2 fun z hz => by simp
   rw [this]; simp
 | y :: xs => by
   have h1 := filter_len hL xs
   have h2 := filter_ne_len (y := y) (hL.filter (fun x => !xs.contains x))
   rw [List.filter_filter] at h2
   have e : (L.filter fun x => !(y :: xs).contains x) = L.filter (fun a => !(a == y) && !xs.contains a) := List.filter_congr fun z _ => by rw [List.contains_cons, Bool.not_or]
   rw [e, List.length_cons]
   omega
theorem nodup_map_add (k : Nat) : ((List.range k).map fun i : Nat => (i : Int) + 10).Nodup := by
 rw [List.nodup_iff_pairwise_ne, List.pairwise_map]
 exact (List.nodup_range (n := k)).imp fun h e => h (by omega)
theorem GrewT.refl (t : TypeId) (B : Nat) (w : World) : GrewT t B w w := ⟨fun _ h _ => h, fun _ _ _ h _ => h, fun _ _ _ _ h => h, Nat.le_refl _⟩
theorem free_ok {xs : List Int} (h : xs.length ≤ 20) : 10 ≤ freeS xs ∧ freeS xs ≤ 63 ∧ freeS xs ∉ xs := by
 have h1 := filter_len (nodup_map_add 54) xs
 have h2 : (freeTo xs 54) = ((List.range 54).map fun i : Nat => (i : Int) + 10).filter fun x => !xs.contains x := by
  unfold freeTo
  exact List.filter_congr fun z _ => by rw [hasB_all]
 rw [← h2] at h1
 simp only [List.length_map, List.length_range] at h1
 match hF : freeTo xs 54 with
 | [] => rw [hF] at h1; simp at h1; omega
 | f :: fs =>
   have hf : freeS xs = f := by unfold freeS; rw [hF]; rfl
   have hm : f ∈ freeTo xs 54 := by rw [hF]; simp
   rw [h2, List.mem_filter, List.mem_map] at hm
   obtain ⟨⟨i, hi, rfl⟩, hn⟩ := hm
   rw [List.mem_range] at hi
   rw [hf]
   refine ⟨by omega, by omega, fun hm => ?_⟩
   rw [← List.contains_iff_mem] at hm
   rw [hm] at hn
   simp at hn
theorem tb_snoc {xs : List Int} {x : Int} (h : tbB xs = true) (hl : xs.length < 20) (h1 : 10 ≤ x ∧ x ≤ 63) (hn : x ∉ xs) : tbB (xs ++ [x]) = true := by
 obtain ⟨_, hto⟩ := tbB_yes h
 unfold tbB
 rw [Bool.and_eq_true]
 refine ⟨decide_eq_true (by simp; omega), List.all_eq_true.2 fun k hk => ?_⟩
 have hk' : k < xs.length + 1 := by simpa using hk
 unfold tbOk hasB
 by_cases hlt : k < xs.length
 · have := hto k hlt
   unfold tbOk hasB at this
   rw [gdE, List.getElem?_append_left hlt, ← gdE, List.take_append_of_le_length (by omega)]
   exact this
 · obtain rfl : k = xs.length := by omega
   have e : (xs ++ [x]).getD xs.length 0 = x := by rw [gdE, List.getElem?_append_right nle]; simp
   rw [e, List.take_append_of_le_length nle, List.take_length, inB_mk h1.1 h1.2]
   cases hc : xs.contains x with
   | false => rfl
   | true => rw [List.contains_iff_mem] at hc; exact absurd hc hn
theorem app_contO {x : List Int} {cs : List Chg} (hx : contB x = true) (h : chsB cs = true) : contB (app pO x cs) = true := by
 obtain ⟨h8, hv⟩ := contB_yes hx
 refine contB_mk (by rw [app_len]; exact h8) fun j hj => ?_
 rw [app_len, h8] at hj
 rw [app_at0 pO (chsB_blk h) h8 hj]
 cases hc : noteM noM cs (j : Int) with
 | none => have := hv j hj; exact inB_mk this.1 this.2
 | some c =>
   have := (note_right h j hj c hc).2
   have := (chB_parts this).2.2
   exact inB_mk this.1 this.2
theorem fits_of {x : List Int} {cs : List Chg} (h8 : x.length = 8) (h : chsB cs = true) (he : app pO x cs = x) : Fits x cs := fun j hj c hc => by
 have := app_at0 pO (chsB_blk h) h8 hj
 rw [he, hc] at this
 exact this.symm
structure Ct (b : Int) (gs : List SgR) (c : List Int) (a : Nat) (c0 : List Int) : Prop where
 cont : contB c0 = true
 chi : ChI b c0 gs
 fw : ∀ j, a + j ≤ gs.length → ctK c0 gs (a + j) = fwK c gs a j
 bk : ∀ j, j ≤ a → ctK c0 gs (a - j) = bkK c gs a j
theorem bk_cont {b : Int} {gs : List SgR} {c : List Int} {a : Nat} (hl : Lead b gs) (ha : a ≤ gs.length) (hc : contB c = true) : ∀ j, j ≤ a → contB (bkK c gs a j) = true
 | 0, _ => hc
 | j + 1, hj => app_contO (bk_cont hl ha hc j (by omega)) (hl.ok _ (by omega))
theorem ct_of {b : Int} {gs : List SgR} {c : List Int} {a : Nat} (hch : chainB b gs = true) (ha : a ≤ gs.length) (hc : contB c = true) (hF : fitF c gs a = true) (hB : fitB c gs a = true) : Ct b gs c a (bkK c gs a a) := by
 have hl := chainB_lead hch
 have h0 := bk_cont hl ha hc a nle
 have hnew : ∀ j, j < a → app pN (bkK c gs a j) (gs.getD (a - 1 - j) sgZ).cs = bkK c gs a j := fun j hj => of_decide_eq_true (List.all_eq_true.1 hB j (by simpa using hj))
 have hold : ∀ j, a + j < gs.length → app pO (fwK c gs a j) (gs.getD (a + j) sgZ).cs = fwK c gs a j := fun j hj => of_decide_eq_true (List.all_eq_true.1 hF j (by simp; omega))
 have hbk : ∀ k, k ≤ a → ctK (bkK c gs a a) gs k = bkK c gs a (a - k) := fun k => by
  induction k with
  | zero => intro _; rfl
  | succ k ih =>
    intro hk
    show app pN (ctK _ gs k) (gs.getD k sgZ).cs = _
    have e : a - k = (a - (k + 1)) + 1 := by omega
    rw [ih (by omega), e]
    show app pN (app pO (bkK c gs a (a - (k + 1))) (gs.getD (a - 1 - (a - (k + 1))) sgZ).cs) _ = _
    have e2 : a - 1 - (a - (k + 1)) = k := by omega
    have h8 := (contB_yes (bk_cont hl ha hc (a - (k + 1)) (by omega))).1
    have hn := hnew (a - (k + 1)) (by omega)
    rw [e2] at hn ⊢
    rw [app_app pN pO (chsB_blk (hl.ok k (by omega))) h8, hn]
 have hfw : ∀ j, a + j ≤ gs.length → ctK (bkK c gs a a) gs (a + j) = fwK c gs a j := fun j => by
  induction j with
  | zero => intro _; rw [Nat.add_zero, hbk a nle, Nat.sub_self]; rfl
  | succ j ih =>
    intro hj
    show app pN (ctK _ gs (a + j)) (gs.getD (a + j) sgZ).cs = _
    rw [ih (by omega)]; rfl
 refine ⟨h0, fun k hk => ?_, hfw, fun j hj => by rw [hbk _ (by omega), show a - (a - j) = j by omega]⟩
 have hlk : lnk b gs k = true := by
  unfold chainB at hch
  rw [Bool.and_eq_true] at hch
  exact List.all_eq_true.1 hch.2 k (by simpa using hk)
 have htm : tmK gs k ≤ (gs.getD k sgZ).m := by
  unfold lnk at hlk
  simp only [Bool.and_eq_true, decide_eq_true_eq] at hlk
  exact hlk.1.2
 refine ⟨hl.seg k hk, hl.from_ k hk, htm, ?_⟩
 rcases Nat.lt_or_ge k a with hlt | hge
 · have e : a - k = (a - (k + 1)) + 1 := by omega
   have e2 : a - 1 - (a - (k + 1)) = k := by omega
   have h8 := (contB_yes (bk_cont hl ha hc (a - (k + 1)) (by omega))).1
   have ex : ctK (bkK c gs a a) gs k = app pO (bkK c gs a (a - (k + 1))) (gs.getD k sgZ).cs := by
    rw [hbk k (by omega), e]
    show app pO _ (gs.getD (a - 1 - (a - (k + 1))) sgZ).cs = _
    rw [e2]
   rw [ex]
   exact fits_of (by rw [app_len]; exact h8) (hl.ok k hk) (app_app pO pO (chsB_blk (hl.ok k hk)) h8)
 · obtain ⟨j, rfl⟩ : ∃ j, k = a + j := ⟨k - a, by omega⟩
   rw [hfw j (by omega)]
   have h8 : (fwK c gs a j).length = 8 := by rw [fwK_len]; exact (contB_yes hc).1
   exact fits_of h8 (hl.ok _ hk) (hold j hk)
theorem stp_cont {g b p t : Int} {xs : List Int} {ms : List Mrk} {gs : List SgR} {im : List Int} (hy : VltY g b p t xs ms gs im) : contB (stp b p t gs im).1 = true := by
 have hl := chainB_lead hy.chain
 obtain ⟨_, h1, h2⟩ := stp_le im hl hy.places
 unfold stp
 by_cases hlt : p < t
 · rw [if_pos hlt]; exact app_cont hy.cont (hl.ok _ (h1 hlt))
 · rw [if_neg hlt]
   by_cases hgt : t < p
   · rw [if_pos hgt]
     have hp : isRet b gs p = true := by have := hy.places; unfold plcB at this; simp only [Bool.and_eq_true] at this; exact this.1.2
     exact app_contO hy.cont (hl.ok _ (by have := (ahd_at hp).1; have := h2 hgt; omega))
   · rw [if_neg hgt]; exact hy.cont
theorem VltY.ct {g b p t : Int} {xs : List Int} {ms : List Mrk} {gs : List SgR} {im : List Int} (hy : VltY g b p t xs ms gs im) :
 Ct b gs (stp b p t gs im).1 (stp b p t gs im).2 (bkK (stp b p t gs im).1 gs (stp b p t gs im).2 (stp b p t gs im).2) :=
 ct_of hy.chain (stp_le im (chainB_lead hy.chain) hy.places).1 (stp_cont hy) hy.fwd hy.bck
theorem top_ct {g b p t : Int} {xs : List Int} {ms : List Mrk} {gs : List SgR} {im : List Int} (hy : VltY g b p t xs ms gs im) :
 cntV b p t gs im (tipV b gs) = fwK (stp b p t gs im).1 gs (stp b p t gs im).2 (gs.length - (stp b p t gs im).2) ∧ cntV b p t gs im (tipV b gs) = ctK (bkK (stp b p t gs im).1 gs (stp b p t gs im).2 (stp b p t gs im).2) gs gs.length := by
 have hl := chainB_lead hy.chain
 have ha := (stp_le im hl hy.places).1
 have ht := (ahd_of hl (Nat.le_refl gs.length)).2
 have h1 : cntV b p t gs im (tipV b gs) = fwK (stp b p t gs im).1 gs (stp b p t gs im).2 (gs.length - (stp b p t gs im).2) := by
  unfold cntV tipV
  rw [ht, if_pos ha]
 refine ⟨h1, ?_⟩
 rw [h1, ← hy.ct.fw _ (by omega), show (stp b p t gs im).2 + (gs.length - (stp b p t gs im).2) = gs.length by omega]
theorem top_cont {g b p t : Int} {xs : List Int} {ms : List Mrk} {gs : List SgR} {im : List Int} (hy : VltY g b p t xs ms gs im) : contB (cntV b p t gs im (tipV b gs)) = true := by
 rw [(top_ct hy).2]; exact hy.ct.chi.cont hy.ct.cont _ nle
theorem idx_app : ∀ {xs : List Int} (ys : List Int) {n : Int}, idx xs n < xs.length → idx (xs ++ ys) n = idx xs n
 | [], _, _, h => absurd h (by simp)
 | x :: xs, ys, n, h => by
   rw [List.cons_append, idx_cons, idx_cons]
   by_cases e : x = n
   · rw [if_pos e, if_pos e]
   · rw [if_neg e, if_neg e]
     rw [idx_cons, if_neg e, List.length_cons] at h
     rw [idx_app ys (by omega)]
theorem retL_app (b : Int) (gs : List SgR) (x : SgR) : retL b (gs ++ [x]) = retL b gs ++ [x.t] := by unfold retL; rw [List.map_append]; rfl
theorem isRet_app {b : Int} {gs : List SgR} {n : Int} (x : SgR) (h : isRet b gs n = true) : isRet b (gs ++ [x]) n = true ∧ ahd b (gs ++ [x]) n = ahd b gs n := by
 have h1 : idx (retL b gs) n < (retL b gs).length := by
  unfold isRet at h
  rw [retL_len]; exact of_decide_eq_true h
 have h2 := idx_app [x.t] h1
 rw [retL_len] at h1
 refine ⟨?_, ?_⟩
 · unfold isRet
   rw [retL_app, h2]
   exact decide_eq_true (by simp; omega)
 · unfold ahd; rw [retL_app, h2]
theorem stp_app {b p t : Int} {gs : List SgR} {ms : List Mrk} (im : List Int) (x : SgR) (hl : Lead b gs) (h : plcB b p t gs ms = true) : stp b p t (gs ++ [x]) im = stp b p t gs im := by
 obtain ⟨_, h1, h2⟩ := stp_le im hl h
 have hp : isRet b gs p = true := by unfold plcB at h; simp only [Bool.and_eq_true] at h; exact h.1.2
 have ha := (ahd_at hp).1
 unfold stp
 rw [(isRet_app x hp).2]
 by_cases hlt : p < t
 · rw [if_pos hlt, if_pos hlt, getD_pre gs [x] (h1 hlt)]
 · rw [if_neg hlt, if_neg hlt]
   by_cases hgt : t < p
   · rw [if_pos hgt, if_pos hgt, getD_pre gs [x] (by have := h2 hgt; omega)]
   · rw [if_neg hgt, if_neg hgt]
theorem fwK_app (c : List Int) (gs : List SgR) (x : SgR) (a : Nat) : ∀ j, a + j ≤ gs.length → fwK c (gs ++ [x]) a j = fwK c gs a j
 | 0, _ => rfl
 | j + 1, h => by
   show app pN (fwK c (gs ++ [x]) a j) ((gs ++ [x]).getD (a + j) sgZ).cs = _
   rw [fwK_app c gs x a j (by omega), getD_pre gs [x] (by omega)]; rfl
theorem bkK_app (c : List Int) (gs : List SgR) (x : SgR) (a : Nat) (ha : a ≤ gs.length) : ∀ j, j ≤ a → bkK c (gs ++ [x]) a j = bkK c gs a j
 | 0, _ => rfl
 | j + 1, h => by
   show app pO (bkK c (gs ++ [x]) a j) ((gs ++ [x]).getD (a - 1 - j) sgZ).cs = _
   rw [bkK_app c gs x a ha j (by omega), getD_pre gs [x] (by omega)]; rfl
theorem plcB_app {b p t : Int} {gs : List SgR} {ms : List Mrk} (x : SgR) (h : plcB b p t gs ms = true) : plcB b p t (gs ++ [x]) ms = true := by
 unfold plcB mksR at h ⊢
 simp only [Bool.and_eq_true] at h ⊢
 exact ⟨⟨List.all_eq_true.2 fun k hk => (isRet_app x (List.all_eq_true.1 h.1.1 k hk)).1, (isRet_app x h.1.2).1⟩, (isRet_app x h.2).1⟩
structure Nxt (b p t : Int) (gs : List SgR) (im : List Int) (x : SgR) (n : Nat) (v : Int) : Prop where
 seg : segB x.f x.t x.m x.cs = true
 at_ : x.f = tipV b gs
 tm : tmK gs gs.length ≤ x.m
 cs : x.cs = [((n : Int), v, (cntV b p t gs im (tipV b gs)).getD n 0)]
 lt : n < 8
theorem ext_y {g b p t : Int} {xs : List Int} {ms : List Mrk} {gs : List SgR} {im : List Int} {x : SgR} {n : Nat} {v : Int} (hy : VltY g b p t xs ms gs im) (hx : Nxt b p t gs im x n v) (hg : g ≠ 999999) (hn : gs.length < 20) :
 VltY (g + 1) b p t (xs ++ [freeS xs]) ms (gs ++ [x]) im := by
 have hl := chainB_lead hy.chain
 obtain ⟨s0, s1, s2, s3, s4, s5⟩ := superB_yes hy.super
 have ha := (stp_le im hl hy.places).1
 have hlen := hy.len
 obtain ⟨f1, f2, f3⟩ := free_ok (xs := xs) (by omega)
 have ht8 := (contB_yes (top_cont hy)).1
 have hct := hy.ct
 refine ⟨superB_mk (inB_mk (by omega) (by omega)) (inB_mk s1.1 s1.2) (inB_mk s2.1 s2.2) (inB_mk s3.1 s3.2) (tb_snoc s4 (by omega) ⟨f1, f2⟩ f3) s5, hy.cont, by simp [hlen], ?_, plcB_app x hy.places, ?_, ?_⟩
 · refine (hct.chi.snoc ⟨hx.seg, hx.at_, hx.tm, ?_⟩).chain hct.cont (inB_mk s1.1 s1.2) (by simp; omega)
   rw [hx.cs, ← (top_ct hy).2]
   exact fits_one _ n v
 · rw [stp_app im x hl hy.places]
   unfold fitF
   refine List.all_eq_true.2 fun j hj => ?_
   have hj' : j < gs.length + 1 - (stp b p t gs im).2 := by simpa using hj
   rw [fwK_app _ gs x _ j (by omega)]
   by_cases hlt : (stp b p t gs im).2 + j < gs.length
   · rw [getD_pre gs [x] hlt]
     exact List.all_eq_true.1 hy.fwd j (by simp; omega)
   · have e : (stp b p t gs im).2 + j = gs.length := by omega
     have e2 : j = gs.length - (stp b p t gs im).2 := by omega
     rw [e, getD_app, e2, ← (top_ct hy).1]
     unfold oldB
     rw [hx.cs, app_one]
     exact decide_eq_true (set_getD (by rw [ht8]; exact hx.lt))
 · rw [stp_app im x hl hy.places]
   unfold fitB
   refine List.all_eq_true.2 fun j hj => ?_
   have hj' : j < (stp b p t gs im).2 := by simpa using hj
   rw [bkK_app _ gs x _ ha j (by omega), getD_pre gs [x] (by omega)]
   exact List.all_eq_true.1 hy.bck j hj
theorem tm_last (gs : List SgR) (t : Int) (h0 : 0 ≤ t) : tmK gs gs.length ≤ lastM gs t := by
 unfold lastM
 cases hn : gs.length with
 | zero => rw [if_neg (by omega)]; show (0 : Int) ≤ t; exact h0
 | succ k =>
   rw [if_pos (by omega), show k + 1 - 1 = k by omega]
   show (gs.getD k sgZ).m ≤ _
   exact Int.le_max_right _ _
theorem newG_nxt {V : Vl} {p v t : Int} {n : Nat} (hy : VltY V.g V.b V.p V.t V.xs V.ms V.gs V.im) (hf : frameB p (n : Int) v t = true) (hp : p = V.tip + 1) : Nxt V.b V.p V.t V.gs V.im (newG V p n v t) n v := by
 obtain ⟨f1, f2, f3, f4⟩ := frameB_yes hf
 have hl := chainB_lead hy.chain
 have hn8 : n < 8 := by omega
 have ho := (contB_yes (top_cont hy)).2 n hn8
 have hm : 0 ≤ lastM V.gs t ∧ lastM V.gs t ≤ 999999 := by
  unfold lastM
  split
  · have := (segB_yes (hl.seg (V.gs.length - 1) (by omega))).2.2.2.1
    rw [Int.max_def]
    split <;> omega
  · exact f4
 refine ⟨segB_mk (by show 0 ≤ p - 1; omega) (by show p - 1 < p; omega) f1.2 (inB_mk hm.1 hm.2) (ch_one (chB_mk f2.1 f2.2 f3.1 f3.2 ho.1 ho.2)), by show p - 1 = tipV V.b V.gs; unfold Vl.tip at hp; omega, tm_last _ _ f4.1, rfl, hn8⟩
theorem flat_get : ∀ (cs : List Chg) (j r : Nat), j < cs.length → r < 3 → (cs.flatMap chN).getD (3 * j + r) 0 = (chN (cs.getD j chZ)).getD r 0
 | [], j, r, h, _ => by simp at h
 | c :: cs, 0, r, h, hr => by
   show (chN c ++ cs.flatMap chN).getD (3 * 0 + r) 0 = (chN c).getD r 0
   rw [gdE, gdE, List.getElem?_append_left (by show _ < 3; omega), show 3 * 0 + r = r by omega]
 | c :: cs, j + 1, r, h, hr => by
   show (chN c ++ cs.flatMap chN).getD (3 * (j + 1) + r) 0 = (chN (cs.getD j chZ)).getD r 0
   rw [← flat_get cs j r (by simpa using h) hr, gdE, gdE, List.getElem?_append_right (by show 3 ≤ _; omega)]
   have : (chN c).length = 3 := rfl
   rw [this, show 3 * (j + 1) + r - 3 = 3 * j + r by omega]
theorem segN_get (f t m : Int) (cs : List Chg) (j r : Nat) (hj : j < cs.length) (hr : r < 3) : (segN f t m cs).getD (3 + 3 * j + r) 0 = (chN (cs.getD j chZ)).getD r 0 := by
 rw [← flat_get cs j r hj hr]
 unfold segN
 rw [gdE, gdE, List.getElem?_append_right (by show 3 ≤ _; omega)]
 have : [f.toNat, t.toNat, m.toNat].length = 3 := rfl
 rw [this, show 3 + 3 * j + r - 3 = 3 * j + r by omega]
theorem sgOf_segN {f t m : Nat} {cs : List Chg} (h : segB f t m cs = true) : sgOf (segN f t m cs) = (f, t, m, cs) := by
 obtain ⟨_, _, _, _, hc⟩ := segB_yes h
 have hl := segN_len f t m cs
 unfold sgOf
 rw [hl, show (3 + 3 * cs.length) / 3 - 1 = cs.length by omega]
 refine Prod.ext (by rfl) (Prod.ext (by rfl) (Prod.ext (by rfl) ?_))
 show chOf (segN f t m cs) cs.length = cs
 unfold chOf
 apply List.ext_getElem (by simp)
 intro j h1 h2
 rw [List.getElem_map, List.getElem_range]
 have g0 := segN_get f t m cs j 0 h2 (by omega)
 have g1 := segN_get f t m cs j 1 h2 (by omega)
 have g2 := segN_get f t m cs j 2 h2 (by omega)
 have hk := chsB_to hc j h2
 have hd : cs.getD j chZ = cs[j] := by rw [gdE, List.getElem?_eq_getElem h2]; rfl
 unfold chN3
 rw [show 3 + 3 * j = 3 + 3 * j + 0 by omega, g0, show 3 + 3 * j + 0 + 1 = 3 + 3 * j + 1 by omega, show 3 + 3 * j + 0 + 2 = 3 + 3 * j + 2 by omega, g1, g2]
 unfold okCh chB inB at hk
 rw [hd] at hk ⊢
 generalize cs[j] = x at *
 obtain ⟨x0, x1, x2⟩ := x
 simp at hk
 show (((x0.toNat : Nat) : Int), ((x1.toNat : Nat) : Int), ((x2.toNat : Nat) : Int)) = (x0, x1, x2)
 rw [Int.toNat_of_nonneg (by omega), Int.toNat_of_nonneg (by omega), Int.toNat_of_nonneg (by omega)]
theorem rdG_back {f t m : Nat} {cs : List Chg} (h : segB f t m cs = true) : rdG (segS f t m cs) = some (f, t, m, cs) := by
 have hs := sgOf_segN h
 have hl := segN_len f t m cs
 have hq : segS f t m cs = sealS (numsS (segN f t m cs)) := by unfold segS; rw [if_pos h]
 rw [hq, rdG_yes (rdN_seal _ (segN_all h)) (okLen_yes (by omega) (by omega)) (by unfold g4B; rw [hs]; exact h), hs]
end Go.Proofs.YtieoiailjjnnoaaGreatDoor
