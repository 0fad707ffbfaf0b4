/-
  Texts of the proof, put together in their order: Mko, Put, Pln.
  Conditions: those of each.
-/
import Derived.Test.YteckhdkghfidiaaGreatDoorMg10
/- Contract of the program's marksOf: the marks of a text. Conditions: texts of at most 65536 bytes; the package's errors are known; the library's variable MaxLen holds a number. -/
namespace Go.Proofs.YteckhdkghfidiaaGreatDoor
set_option linter.unusedVariables false
set_option maxRecDepth 100000
open Go.RowKit

/-- What reading marks leaves: an error, or the marks in new memory. -/
def RetMk (w : World) (o : Option (List Mrk)) (a0 : Addr) (e : Ending) (w' : World) : Prop :=
  Nx w w' ∧ (o = none → e = .returned (.tuple #[.slice none 0 0, .iface 225 (.pointer (some a0))])) ∧
  ∀ ms, o = some ms → ∃ A c, e = .returned (.tuple #[.slice A ms.length c, .nilIface]) ∧ SlM w' w.heap.size A ms
theorem RetMk.no {w w' : World} {o : Option (List Mrk)} {a0 : Addr} (h : o = none) (hn : Nx w w') : RetMk w o a0 (.returned (.tuple #[.slice none 0 0, .iface 225 (.pointer (some a0))])) w' :=
  ⟨hn, fun _ => rfl, fun ns h2 => by rw [h] at h2; cases h2⟩
theorem RetMk.yes {w w' : World} {o : Option (List Mrk)} {a0 : Addr} {ms : List Mrk} {A : Option Addr} {c : Nat} (h : o = some ms) (hr : SlM w' w.heap.size A ms) (hn : Nx w w') : RetMk w o a0 (.returned (.tuple #[.slice A ms.length c, .nilIface])) w' :=
  ⟨hn, (fun h2 => by rw [h] at h2; cases h2), fun ns' h2 => by rw [h] at h2; injection h2 with h2; subst h2; exact ⟨A, c, rfl, hr⟩⟩
theorem wordB_cut {x : ByteArray} {f : Bool} {a b : ByteArray} (hf : (Lib.cut x.data.toList [61]).2.2 = f) (ha : baL (Lib.cut x.data.toList [61]).1 = a) (hb : baL (Lib.cut x.data.toList [61]).2.1 = b) :
    wordB x = if f && plainB b.data.toList then some (a, ((valL b.data.toList : Nat) : Int)) else none := by
  unfold wordB wordM
  rw [← hb, baL_list, hf, ha]
theorem cut_len (l : List UInt8) (c : UInt8) : (Lib.cut l [c]).1.length ≤ l.length ∧ (Lib.cut l [c]).2.1.length ≤ l.length := by
  rcases part_at c l with h | ⟨a, b, h, e⟩
  · rw [cut_miss h]; simp
  · rw [e, cut_hit h]; simp; omega
theorem mV_len (ms : List Mrk) : (mV ms).length = ms.length * 2 := by
  unfold mV
  induction ms with
  | nil => rfl
  | cons m ms ih => simp only [List.flatMap_cons, List.length_append, ih, List.length_cons, List.length_nil]; omega
theorem newM (w : World) (a : ByteArray) (n : Int) : Hid (∀ j u, [Value.string a, .int .i64 n][j]? = some u → (w.alloc (.cells #[.string a, .int .i64 n] 103)).cell? ((Addr.mk w.heap.size 0 none).add j) = some u) := Lib.hid (fun j u hj => by
  have b := Box.new w 103 #[.string a, .int .i64 n]
  rw [addr_add', Nat.zero_add, b.cell j, ← hj]
  rcases j with _ | _ | j <;> simp)
set_option maxHeartbeats 4000000 in
theorem marksOf_c (s : ByteArray) (w : World) (a0 a1 : Addr) (hs : s.size ≤ 65536) (hE : Er w a0 a1) (hM : Mx w) : Calls Tryz.prog 90 #[.string s] w (RetMk w (marksO s.data.toList) a0) := by
  obtain ⟨i0, hi0, hz0, hz1, hz2⟩ := info_parts info_mk
  by_cases h0 : s.size = 0
  · have hd : (s.toList == []) = true := by
      rw [beq_iff_eq, ByteArray.toList_eq]; exact List.eq_nil_of_length_eq_zero (by rw [← ba_size]; exact h0)
    have HF := Lib.hid (marksO_nil h0)
    go_enter Tryz.func90, Tryz.ntmps90
    go_wp2
    go_ret2
    exact RetMk.yes (ms := []) HF.out (Sl.none_ _ _ _ _ _) (Nx.refl _)
  have hd : (s.toList == []) = false := by
    rw [beq_eq_false_iff_ne, ByteArray.toList_eq]; intro h; exact h0 (by rw [ba_size, h]; rfl)
  have HO := Lib.hid (marksO_cut h0)
  go_enter Tryz.func90, Tryz.ntmps90
  go_wp2_with fail
  refine (split_c s 44 _ hs hM).mono ?_
  rintro e w1 ⟨A, cp, rfl, hS, hnx1⟩
  have hl9 : (cutB 44 s).length ≤ 65537 := by rw [cutB_len]; have := cutL_size 44 s.data.toList; rw [← ba_size] at this; omega
  have HPt := Lib.hid (fun k => cutB_part (c := 44) (t := s) k)
  obtain ⟨ws, Hws⟩ : ∃ ws, Hid (cutB 44 s = ws) := ⟨_, rfl⟩
  rw [Hws.out] at hS HO hl9 HPt ⊢
  go_wp2
  go_loopw [4, 17] (fun o i wr => ∃ (k : Nat) (v : Value) (ms : List Mrk), k ≤ ws.length ∧ i = .int .i64 k ∧ v = o ∧ RowM wr w1.heap.size v ms ∧ Hid (marksB (ws.take k) = some ms) ∧ Nx w1 wr) (fun _ i _ => ws.length - (intOf i).toNat)
  case atStart => exact ⟨0, _, [], Nat.zero_le _, rfl, rfl, RowM.nil _ _, Lib.hid rfl, Nx.refl _⟩
  case round =>
    obtain ⟨k, v, ms, hk, rfl, rfl, hw, HM, hnx⟩ := hrel
    by_cases hlt : k < ws.length
    · obtain ⟨b, off, rfl, hb, hc0⟩ := (hS.row.below hnx (Nat.le_refl _)) (by omega)
      have hc := hc0 k hlt
      clear hc0
      unfold wdAt at hc
      have hsz := HPt.out k
      have HNo := Lib.hid (fun h => HO.out.trans (marksB_no hlt h))
      have HYes := Lib.hid (fun m (h : wordB (ws.getD k ByteArray.empty) = some m) => marksB_succ hlt HM.out h)
      have hml : ms.length = k := by rw [marksB_len HM.out, List.length_take]; omega
      have Hml := Lib.hid hml
      obtain ⟨x, Hx⟩ : ∃ x, Hid (ws.getD k ByteArray.empty = x) := ⟨_, rfl⟩
      rw [Hx.out] at hc hsz HNo HYes
      clear hml
      go_wp2_with fail
      refine (cut_c x 61 _ (by omega) ((hM.nx hnx1).nx hnx)).mono ?_
      rintro e w2 ⟨he, hnx2⟩
      have hcl := cut_len x.data.toList 61
      obtain ⟨a, Ha⟩ : ∃ a, Hid (baL (Lib.cut x.data.toList [61]).1 = a) := ⟨_, rfl⟩
      obtain ⟨bb, Hb⟩ : ∃ a, Hid (baL (Lib.cut x.data.toList [61]).2.1 = a) := ⟨_, rfl⟩
      have hbs : bb.size ≤ 65536 := by rw [← Hb.out, baL_size]; have := hcl.2; rw [← ba_size] at this; omega
      clear hcl
      have hx2 := hnx.trans hnx2
      have hE2 := hE.nx (hnx1.trans hx2)
      have hw2 := hw.nx hnx2
      rw [Ha.out, Hb.out] at he
      cases hf : (Lib.cut x.data.toList [61]).2.2 with
      | false =>
        have HF := Lib.hid (HNo.out (by rw [wordB_cut hf Ha.out Hb.out]; rfl))
        rw [hf] at he
        subst he
        clear hf HNo HYes
        obtain ⟨c0, _⟩ := hE2
        go_wp2
        go_quiet (fail)
        go_wp2
        go_ret2
        exact RetMk.no HF.out ((hnx1.trans hx2).drewN _)
      | true =>
        have HWd := Lib.hid (wordB_cut hf Ha.out Hb.out)
        rw [hf] at he
        subst he
        clear hf
        go_wp2_with fail
        refine (plainNumberOf_c bb _ a0 a1 hbs hE2).mono ?_
        rintro e w3 ⟨he3, hnx3⟩
        have hx3 := hx2.trans hnx3
        have hw3 := hw2.nx hnx3
        cases hp : plainB bb.data.toList with
        | false =>
          have HF := Lib.hid (HNo.out (by rw [HWd.out, hp]; rfl))
          rw [← plainV_no hp] at he3
          subst he3
          clear hp HNo HYes
          go_wp2
          go_ret2
          exact RetMk.no HF.out (hnx1.trans hx3)
        | true =>
          have HY := Lib.hid (HYes.out (a, ((valL bb.data.toList : Nat) : Int)) (by rw [HWd.out, hp]; rfl))
          rw [← plainV_yes hp] at he3
          subst he3
          clear hp HNo HYes
          obtain ⟨m, Hm⟩ : ∃ m : Int, Hid (((valL bb.data.toList : Nat) : Int) = m) := ⟨_, rfl⟩
          rw [Hm.out] at HY ⊢
          have hw4 := hw3.nx ((Nx.refl w3).alloc (.cells #[.string a, .int .i64 m] 103))
          have hx4 := hx3.alloc (.cells #[.string a, .int .i64 m] 103)
          have HNW := newM w3 a m
          have HOc : Hid (∀ u ∈ [Value.string a, .int .i64 m], u.oneCell' = true) := Lib.hid (fun u hu => by simp only [List.mem_cons, List.not_mem_nil, or_false] at hu; rcases hu with rfl | rfl <;> rfl)
          unfold RowM at hw4
          go_wp2_with (at_builtin; refine wpList_append_own _ rfl _ _ 24 rfl w1.heap.size 103 i0 _ 2 24 Tryz.underlying24 hi0 hz0 hz1 hz2 rfl (by omega) v ms.length _ rfl hw4 ⟨w3.heap.size, 0, none⟩ 1 1 [.string a, .int .i64 m] rfl rfl HNW.out HOc.out ?c3 ?c4 ?c5 ?_)
          case c3 => unfold maxLen; have := Hml.out; omega
          case c4 => have := Hml.out; omega
          case c5 => have := hx4.size; simp only [World.size_alloc] at this ⊢; omega
          intro v2 w5 hw5 hg5 _
          have hx5 : Nx w1 w5 := Below.grown hx4 hg5 hx4.size (fun k hk => (hw4.lt k hk).1)
          go_wp2
          go_roundw
          case rel =>
            refine ⟨k + 1, v2, ms ++ [(a, m)], by omega, by go_num, rfl, ?_, HY, hx5⟩
            unfold RowM; rw [mV_snoc, List.length_append]; exact hw5
          case measure => simp [intOf]; omega
    · obtain rfl : k = ws.length := by omega
      have HR := Lib.hid (show marksO s.data.toList = some ms by rw [HO.out, ← HM.out, List.take_length])
      obtain ⟨A2, c2, rfl, _, hS2⟩ := hw.slc
      go_wp2
      go_ret2
      exact RetMk.yes HR.out (hS2.low hnx1.size) (hnx1.trans hnx)
end Go.Proofs.YteckhdkghfidiaaGreatDoor
/- A result's block of six cells, filled at the end; lists of ints copied. Conditions: what is copied can be read, and holds at most 1048576 elements. -/
namespace Go.Proofs.YteckhdkghfidiaaGreatDoor
set_option linter.unusedVariables false
set_option maxRecDepth 100000
open Go.RowKit

def put6 (u : World) (g : Nat) (v0 v1 v2 v3 v4 v5 : Value) : World := (((((u.setCell ⟨g, 0, none⟩ v0).setCell ⟨g, 1, none⟩ v1).setCell ⟨g, 2, none⟩ v2).setCell ⟨g, 3, none⟩ v3).setCell ⟨g, 4, none⟩ v4).setCell ⟨g, 5, none⟩ v5
theorem put6_box {u : World} {g : Nat} {t : TypeId} {a b c d x y : Value} (hb : Box u g t #[a, b, c, d, x, y]) (v0 v1 v2 v3 v4 v5 : Value) : Box (put6 u g v0 v1 v2 v3 v4 v5) g t #[v0, v1, v2, v3, v4, v5] :=
  (((((hb.set 0 v0).set 1 v1).set 2 v2).set 3 v3).set 4 v4).set 5 v5
theorem put6_nx {w u : World} {g : Nat} (hx : Nx w u) (hg : w.heap.size ≤ g) (v0 v1 v2 v3 v4 v5 : Value) : Nx w (put6 u g v0 v1 v2 v3 v4 v5) :=
  (((((hx.setCell (p := ⟨g, 0, none⟩) hg v0).setCell (p := ⟨g, 1, none⟩) hg v1).setCell (p := ⟨g, 2, none⟩) hg v2).setCell (p := ⟨g, 3, none⟩) hg v3).setCell (p := ⟨g, 4, none⟩) hg v4).setCell (p := ⟨g, 5, none⟩) hg v5
theorem Sl.pt6 {u : World} {lo g : Nat} {A : Option Addr} {t : TypeId} {m : Nat} {f : Nat → Value} (h : Sl u lo A t m f) (hg : g < lo) (v0 v1 v2 v3 v4 v5 : Value) : Sl (put6 u g v0 v1 v2 v3 v4 v5) lo A t m f :=
  (((((h.far (p := ⟨g, 0, none⟩) hg v0).far (p := ⟨g, 1, none⟩) hg v1).far (p := ⟨g, 2, none⟩) hg v2).far (p := ⟨g, 3, none⟩) hg v3).far (p := ⟨g, 4, none⟩) hg v4).far (p := ⟨g, 5, none⟩) hg v5
theorem Sl.pt6t {u : World} {lo g : Nat} {A : Option Addr} {t t' : TypeId} {m : Nat} {f : Nat → Value} {a b c d x y : Value} (h : Sl u lo A t m f) (hb : Box u g t' #[a, b, c, d, x, y]) (ht : t' ≠ t) (v0 v1 v2 v3 v4 v5 : Value) : Sl (put6 u g v0 v1 v2 v3 v4 v5) lo A t m f :=
  (((((h.far_ty (p := ⟨g, 0, none⟩) hb ht v0).far_ty (p := ⟨g, 1, none⟩) (hb.set 0 v0) ht v1).far_ty (p := ⟨g, 2, none⟩) ((hb.set 0 v0).set 1 v1) ht v2).far_ty (p := ⟨g, 3, none⟩) (((hb.set 0 v0).set 1 v1).set 2 v2) ht v3).far_ty (p := ⟨g, 4, none⟩) ((((hb.set 0 v0).set 1 v1).set 2 v2).set 3 v3) ht v4).far_ty (p := ⟨g, 5, none⟩) (((((hb.set 0 v0).set 1 v1).set 2 v2).set 3 v3).set 4 v4) ht v5
theorem Box.far6 {u : World} {g g2 : Nat} {t : TypeId} {cs : Array Value} (h : Box u g2 t cs) (hg : g2 ≠ g) (v0 v1 v2 v3 v4 v5 : Value) : Box (put6 u g v0 v1 v2 v3 v4 v5) g2 t cs :=
  (((((h.far (p := ⟨g, 0, none⟩) hg v0).far (p := ⟨g, 1, none⟩) hg v1).far (p := ⟨g, 2, none⟩) hg v2).far (p := ⟨g, 3, none⟩) hg v3).far (p := ⟨g, 4, none⟩) hg v4).far (p := ⟨g, 5, none⟩) hg v5
theorem Box.drew {w : World} {g : Nat} {t : TypeId} {cs : Array Value} (h : Box w g t cs) : Box w.drew g t cs := h
theorem inAt_one (xs : List Int) (k : Nat) : (inAt xs k).oneCell' = true := rfl
/-- What a function leaves that answers a list of ints in new memory, no longer than its room. -/
def RetIx (w : World) (xs : List Int) (e : Ending) (w' : World) : Prop := ∃ (A : Option Addr) (c : Nat), e = .returned (.slice A xs.length c) ∧ xs.length ≤ c ∧ SlI w' w.heap.size A xs ∧ Nx w w'
set_option maxHeartbeats 1000000 in
theorem copyListI_c (A : Option Addr) (c B : Nat) (xs : List Int) (w : World) (h : Ins w B A xs) (hB : B ≤ w.heap.size) (hn : xs.length ≤ 1048576) :
    Calls Tryz.prog 91 #[.slice A xs.length c] w (RetIx w xs) := by
  rcases Nat.eq_zero_or_pos xs.length with hz | hp
  · have h0 : ((xs.length : Int) == 0) = true := beq_iff_eq.2 (by omega)
    have HZ := Lib.hid hz
    clear hz
    go_enter Tryz.func91, Tryz.ntmps91
    go_wp2
    go_ret
    exact ⟨none, 0, by rw [HZ.out]; rfl, by rw [HZ.out]; exact Nat.le_refl _, (fun h => absurd h (by rw [HZ.out]; omega)), Nx.refl _⟩
  have h0 : ((xs.length : Int) == 0) = false := beq_eq_false_iff_ne.2 (by omega)
  obtain ⟨i0, hi0, hz0, hz1, hz2⟩ := info_parts info_int
  have hmk := fun W => run_make_rowN (P := Tryz.prog) 23 3 i0 _ Tryz.underlying23 hi0 hz0 .i64 .i64 xs.length xs.length (Nat.le_refl _) (by rw [hz2]; omega) (by omega) W
  rw [hz1] at hmk
  have hmade := Own.made w #[Value.int .i64 0] xs.length 3
  have hnx := (Nx.refl w).alloc (.cells (madeCells #[Value.int .i64 0] xs.length) 3)
  obtain ⟨w1, hrun, ho1, hnx1, _, _⟩ := run_copy_new (P := Tryz.prog) (w.alloc (.cells (madeCells #[Value.int .i64 0] xs.length) 3)) 23 23 3 3 i0 1 Tryz.underlying23 hi0 hz1
    w.heap.size xs.length xs.length A xs.length c B xs.length 3 (inAt xs) _ hmade (by omega) (Nat.le_refl _) (by rw [Nat.mul_one]; exact h.below hnx hB) (inAt_one xs)
  have hx1 := hnx1 w hnx (Nat.le_refl _)
  have HO := Lib.hid (ho1.congr (f' := inAt xs) (fun k hk => by rw [if_pos (by omega)]))
  clear ho1 hnx1 hmade
  go_enter Tryz.func91, Tryz.ntmps91
  go_wp2
  go_ret
  exact ⟨_, _, rfl, Nat.le_refl _, Sl.own HO.out (Nat.le_refl _), hx1⟩
end Go.Proofs.YteckhdkghfidiaaGreatDoor
/- A region that draws its order, walked by a plan: operations that only read cells that stay as they are (S) are taken in whatever order the plan names; where two may come up, both orders are walked. Conditions: those of each theorem. -/
namespace Go.Proofs.YteckhdkghfidiaaGreatDoor
set_option linter.unusedVariables false
open Go.RowKit
/-- A plan: its end; take k; meet k when it alone may come up; where j and k may come up, a plan behind each. -/
inductive Pl where
  | e
  | t (k : Nat) (r : Pl)
  | c (k : Nat) (r : Pl)
  | b (j : Nat) (r1 : Pl) (k : Nat) (r2 : Pl)
  | d (i : Nat) (r0 : Pl) (j : Nat) (r1 : Pl) (k : Nat) (r2 : Pl)
/-- .. with the operations. -/
inductive Ps where
  | e
  | t (o : Oper) (r : Ps)
  | c (o : Oper) (r : Ps)
  | b (oj : Oper) (r1 : Ps) (ok : Oper) (r2 : Ps)
  | d (oi : Oper) (r0 : Ps) (oj : Oper) (r1 : Ps) (ok : Oper) (r2 : Ps)
def noOp : Oper := { dst := none, op := Op.move (Operand.const undef), type := 0, pos := "", after := #[], guard := none }
def psOf (l : List Oper) : Pl → Ps
  | .e => .e
  | .t k r => .t (l.getD k noOp) (psOf l r)
  | .c k r => .c (l.getD k noOp) (psOf l r)
  | .b j r1 k r2 => .b (l.getD j noOp) (psOf l r1) (l.getD k noOp) (psOf l r2)
  | .d i r0 j r1 k r2 => .d (l.getD i noOp) (psOf l r0) (l.getD j noOp) (psOf l r1) (l.getD k noOp) (psOf l r2)
section
variable {P : Program} {ops : Array Oper} {Q : Exit → Act → World → Prop} {S : World → Prop}
def CallStep (P : Program) (ops : Array Oper) (Q : Exit → Act → World → Prop) (S : World → Prop) (o : Oper) (R : Act → World → Prop) (a : Act) (w : World) : Prop :=
  Region.wanted o (yielded ops a.tmps) = true ∧ ∀ K : Act → World → Prop, Hid (∀ a' w', S w' → R a' w' → K a' w') → o.wp P a w K Q
def HP (P : Program) (ops : Array Oper) (Q : Exit → Act → World → Prop) (S : World → Prop) : Ps → Act → World → Prop
  | .e, a, w => Q .normal a w
  | .t o r, a, w => ∃ v, YieldsIf P ops S o v a ∧ HP P ops Q S r (a.put o.dst v) w
  | .c o r, a, w => CallStep P ops Q S o (HP P ops Q S r) a w
  | .b oj r1 ok r2, a, w => CallStep P ops Q S oj (HP P ops Q S r1) a w ∧ CallStep P ops Q S ok (HP P ops Q S r2) a w
  | .d oi r0 oj r1 ok r2, a, w => CallStep P ops Q S oi (HP P ops Q S r0) a w ∧ CallStep P ops Q S oj (HP P ops Q S r1) a w ∧ CallStep P ops Q S ok (HP P ops Q S r2) a w
def steps : Pl → Nat
  | .e => 0
  | .t _ r => steps r + 1
  | .c _ r => steps r + 1
  | .b _ r1 _ _ => steps r1 + 1
  | .d _ r0 _ _ _ _ => steps r0 + 1
/-- What is asked of the region's edges alone. -/
def planB (md : Region.Mode) (ops : Array Oper) : Pl → Array Bool → Bool
  | .e, listed => Region.ready md ops listed == []
  | .t k r, listed => decide (k < ops.size) && (Region.ready md ops listed).contains k && Region.free md ops listed k && planB md ops r (listed.setIfInBounds k true)
  | .c k r, listed => decide (k < ops.size) && (Region.ready md ops listed == [k]) && planB md ops r (listed.setIfInBounds k true)
  | .b j r1 k r2, listed => decide (j < ops.size) && decide (k < ops.size) && (Region.ready md ops listed == [j, k]) && decide (steps r2 = steps r1) && planB md ops r1 (listed.setIfInBounds j true) && planB md ops r2 (listed.setIfInBounds k true)
  | .d i r0 j r1 k r2, listed => decide (i < ops.size) && decide (j < ops.size) && decide (k < ops.size) && (Region.ready md ops listed == [i, j, k]) && decide (steps r1 = steps r0) && decide (steps r2 = steps r0) && planB md ops r0 (listed.setIfInBounds i true) && planB md ops r1 (listed.setIfInBounds j true) && planB md ops r2 (listed.setIfInBounds k true)
theorem HP.take {o : Oper} {r : Ps} {a : Act} {w : World} {v : Value} (hw : Region.wanted o (yielded ops a.tmps) = true) (h : ∀ w, S w → (execOp a.eval o).run P w = .ok (.value v) w)
    (hr : HP P ops Q S r (a.put o.dst v) w) : HP P ops Q S (.t o r) a w := ⟨v, .inl ⟨hw, h⟩, hr⟩
theorem HP.skip {o : Oper} {r : Ps} {a : Act} {w : World} (hw : Region.wanted o (yielded ops a.tmps) = false) (hr : HP P ops Q S r (a.put o.dst undef) w) : HP P ops Q S (.t o r) a w := ⟨undef, .inr ⟨hw, rfl⟩, hr⟩
theorem HP.call {o : Oper} {r : Ps} {a : Act} {w : World} (h : CallStep P ops Q S o (HP P ops Q S r) a w) : HP P ops Q S (.c o r) a w := h
theorem HP.both {oj ok : Oper} {r1 r2 : Ps} {a : Act} {w : World} (h1 : CallStep P ops Q S oj (HP P ops Q S r1) a w) (h2 : CallStep P ops Q S ok (HP P ops Q S r2) a w) : HP P ops Q S (.b oj r1 ok r2) a w := ⟨h1, h2⟩
theorem HP.three {oi oj ok : Oper} {r0 r1 r2 : Ps} {a : Act} {w : World} (h0 : CallStep P ops Q S oi (HP P ops Q S r0) a w) (h1 : CallStep P ops Q S oj (HP P ops Q S r1) a w) (h2 : CallStep P ops Q S ok (HP P ops Q S r2) a w) : HP P ops Q S (.d oi r0 oj r1 ok r2) a w := ⟨h0, h1, h2⟩
theorem HP.done {a : Act} {w : World} (h : Q .normal a w) : HP P ops Q S .e a w := h
theorem CallStep.mk {o : Oper} {R : Act → World → Prop} {a : Act} {w : World} (hw : Region.wanted o (yielded ops a.tmps) = true)
    (h : ∀ K : Act → World → Prop, Hid (∀ a' w', S w' → R a' w' → K a' w') → o.wp P a w K Q) : CallStep P ops Q S o R a w := ⟨hw, h⟩
theorem CallStep.op {k : Nat} {o : Oper} {R K : Act → World → Prop} {a : Act} {w : World} (h : CallStep P ops Q S o R a w) (h0 : ops[k]? = some o) (hK : ∀ a' w', S w' → R a' w' → K a' w') : wpOp P ops Q k K a w := by
  unfold wpOp
  simp only [h0, h.1, if_true]
  exact .inl (h.2 _ (Lib.hid hK))
theorem getD_op {l : List Oper} {k : Nat} (h : k < l.toArray.size) : l.toArray[k]? = some (l.getD k noOp) := by
  have h' : k < l.length := by simpa using h
  rw [List.getElem?_toArray, List.getD_eq_getElem?_getD, List.getElem?_eq_getElem h']; rfl
theorem HP.any {md : Region.Mode} {l : List Oper} (hs : Region.noSelect l.toArray = true) (hQ : ∀ c a d v w, Q (.panic c) (Act.put a d v) w → Q (.panic c) a w) :
    ∀ (ks : Pl) (listed : Array Bool) (a : Act) (w : World), planB md l.toArray ks listed = true → S w → HP P l.toArray Q S (psOf l ks) a w → wpAnyH P md l.toArray Q S (steps ks) listed a w
  | .e, listed, a, w, hB, _, h => wpAnyH_done (by simpa [planB] using hB) h _
  | .t k r, listed, a, w, hB, hS, h => by
    simp only [planB, Bool.and_eq_true, decide_eq_true_eq] at hB
    obtain ⟨⟨⟨hk, hr⟩, hf⟩, hB'⟩ := hB
    obtain ⟨v, hy, hK⟩ := h
    exact wpAnyH_take (getD_op hk) hs hf hr (fun c a w => hQ c a _ _ w) hy hS (HP.any hs hQ r _ _ w hB' hS hK)
  | .c k r, listed, a, w, hB, hS, h => by
    simp only [planB, Bool.and_eq_true, decide_eq_true_eq, beq_iff_eq] at hB
    obtain ⟨⟨hk, hr⟩, hB'⟩ := hB
    refine wpAnyH_all hr (by simp) fun i hi => ?_
    obtain rfl : i = k := by simpa using hi
    exact CallStep.op h (getD_op hk) fun a' w' hS' h' => ⟨hS', HP.any hs hQ r _ a' w' hB' hS' h'⟩
  | .b j r1 k r2, listed, a, w, hB, hS, h => by
    simp only [planB, Bool.and_eq_true, decide_eq_true_eq, beq_iff_eq] at hB
    obtain ⟨⟨⟨⟨⟨hj, hk⟩, hr⟩, hst⟩, hB1⟩, hB2⟩ := hB
    refine wpAnyH_all hr (by simp) fun i hi => ?_
    rcases (show i = j ∨ i = k by simpa using hi) with rfl | rfl
    · exact CallStep.op h.1 (getD_op hj) fun a' w' hS' h' => ⟨hS', HP.any hs hQ r1 _ a' w' hB1 hS' h'⟩
    · exact CallStep.op h.2 (getD_op hk) fun a' w' hS' h' => ⟨hS', by have := HP.any hs hQ r2 _ a' w' hB2 hS' h'; rw [hst] at this; exact this⟩
  | .d i r0 j r1 k r2, listed, a, w, hB, hS, h => by
    simp only [planB, Bool.and_eq_true, decide_eq_true_eq, beq_iff_eq] at hB
    obtain ⟨⟨⟨⟨⟨⟨⟨⟨hi, hj⟩, hk⟩, hr⟩, hst1⟩, hst2⟩, hB0⟩, hB1⟩, hB2⟩ := hB
    refine wpAnyH_all hr (by simp) fun x hx => ?_
    rcases (show x = i ∨ x = j ∨ x = k by simpa using hx) with rfl | rfl | rfl
    · exact CallStep.op h.1 (getD_op hi) fun a' w' hS' h' => ⟨hS', HP.any hs hQ r0 _ a' w' hB0 hS' h'⟩
    · exact CallStep.op h.2.1 (getD_op hj) fun a' w' hS' h' => ⟨hS', by have := HP.any hs hQ r1 _ a' w' hB1 hS' h'; rw [hst1] at this; exact this⟩
    · exact CallStep.op h.2.2 (getD_op hk) fun a' w' hS' h' => ⟨hS', by have := HP.any hs hQ r2 _ a' w' hB2 hS' h'; rw [hst2] at this; exact this⟩
/-- The region. -/
theorem wp_region_plan {id : Nat} {a : Act} {w : World} {l : List Oper} (ks : Pl) (S : World → Prop) (hm : P.follows .mixedOrders = true) (hs : Region.noSelect l.toArray = true) (hl : l.length = steps ks)
    (hB : planB .any l.toArray ks (Array.replicate l.toArray.size false) = true) (hQ : ∀ c a d v w, Q (.panic c) (Act.put a d v) w → Q (.panic c) a w) (hS : S w.drew)
    (h : HP P l.toArray Q S (psOf l ks) a w.drew) : (Code.region id l.toArray true).wp P Q a w := by
  refine wp_region_held_drew (S := S) hm hS fun _ => ?_
  have := HP.any (md := .any) hs hQ ks (Array.replicate l.toArray.size false) a w.drew hB hS h
  have e : l.toArray.size = steps ks := by simpa using hl
  rw [e]
  rw [e] at this
  exact this
end
end Go.Proofs.YteckhdkghfidiaaGreatDoor
