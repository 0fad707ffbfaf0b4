/-
  Texts of the proof, put together in their order: Put, Rdu, Pln2, Adi, Rds, Rdf, Rff, Lrf.
  Conditions: those of each.
-/
import Derived.Test.YtehahodomfbpjaaGreatDoorMm8
import Derived.Deep.AppendLies
/- A result's block of six cells, filled at the end; lists of ints copied. Conditions: what is copied can be read, and holds at most 1048576 elements. -/
namespace Go.Proofs.YtehahodomfbpjaaGreatDoor
set_option linter.unusedVariables false
set_option maxRecDepth 100000
open Go.RowKit

def put6 (u : World) (g : Nat) (v0 v1 v2 v3 v4 v5 : Value) : World := (((((u.setCell ⟨g, 0, none⟩ v0).setCell ⟨g, 1, none⟩ v1).setCell ⟨g, 2, none⟩ v2).setCell ⟨g, 3, none⟩ v3).setCell ⟨g, 4, none⟩ v4).setCell ⟨g, 5, none⟩ v5
theorem put6_box {u : World} {g : Nat} {t : TypeId} {a b c d x y : Value} (hb : Box u g t #[a, b, c, d, x, y]) (v0 v1 v2 v3 v4 v5 : Value) : Box (put6 u g v0 v1 v2 v3 v4 v5) g t #[v0, v1, v2, v3, v4, v5] :=
  (((((hb.set 0 v0).set 1 v1).set 2 v2).set 3 v3).set 4 v4).set 5 v5
theorem put6_nx {w u : World} {g : Nat} (hx : Nx w u) (hg : w.heap.size ≤ g) (v0 v1 v2 v3 v4 v5 : Value) : Nx w (put6 u g v0 v1 v2 v3 v4 v5) :=
  (((((hx.setCell (p := ⟨g, 0, none⟩) hg v0).setCell (p := ⟨g, 1, none⟩) hg v1).setCell (p := ⟨g, 2, none⟩) hg v2).setCell (p := ⟨g, 3, none⟩) hg v3).setCell (p := ⟨g, 4, none⟩) hg v4).setCell (p := ⟨g, 5, none⟩) hg v5
theorem Sl.pt6 {u : World} {lo g : Nat} {A : Option Addr} {t : TypeId} {m : Nat} {f : Nat → Value} (h : Sl u lo A t m f) (hg : g < lo) (v0 v1 v2 v3 v4 v5 : Value) : Sl (put6 u g v0 v1 v2 v3 v4 v5) lo A t m f :=
  (((((h.far (p := ⟨g, 0, none⟩) hg v0).far (p := ⟨g, 1, none⟩) hg v1).far (p := ⟨g, 2, none⟩) hg v2).far (p := ⟨g, 3, none⟩) hg v3).far (p := ⟨g, 4, none⟩) hg v4).far (p := ⟨g, 5, none⟩) hg v5
theorem Sl.pt6t {u : World} {lo g : Nat} {A : Option Addr} {t t' : TypeId} {m : Nat} {f : Nat → Value} {a b c d x y : Value} (h : Sl u lo A t m f) (hb : Box u g t' #[a, b, c, d, x, y]) (ht : t' ≠ t) (v0 v1 v2 v3 v4 v5 : Value) : Sl (put6 u g v0 v1 v2 v3 v4 v5) lo A t m f :=
  (((((h.far_ty (p := ⟨g, 0, none⟩) hb ht v0).far_ty (p := ⟨g, 1, none⟩) (hb.set 0 v0) ht v1).far_ty (p := ⟨g, 2, none⟩) ((hb.set 0 v0).set 1 v1) ht v2).far_ty (p := ⟨g, 3, none⟩) (((hb.set 0 v0).set 1 v1).set 2 v2) ht v3).far_ty (p := ⟨g, 4, none⟩) ((((hb.set 0 v0).set 1 v1).set 2 v2).set 3 v3) ht v4).far_ty (p := ⟨g, 5, none⟩) (((((hb.set 0 v0).set 1 v1).set 2 v2).set 3 v3).set 4 v4) ht v5
theorem Box.far6 {u : World} {g g2 : Nat} {t : TypeId} {cs : Array Value} (h : Box u g2 t cs) (hg : g2 ≠ g) (v0 v1 v2 v3 v4 v5 : Value) : Box (put6 u g v0 v1 v2 v3 v4 v5) g2 t cs :=
  (((((h.far (p := ⟨g, 0, none⟩) hg v0).far (p := ⟨g, 1, none⟩) hg v1).far (p := ⟨g, 2, none⟩) hg v2).far (p := ⟨g, 3, none⟩) hg v3).far (p := ⟨g, 4, none⟩) hg v4).far (p := ⟨g, 5, none⟩) hg v5
theorem Box.drew {w : World} {g : Nat} {t : TypeId} {cs : Array Value} (h : Box w g t cs) : Box w.drew g t cs := h
theorem inAt_one (xs : List Int) (k : Nat) : (inAt xs k).oneCell' = true := rfl
/-- What a function leaves that answers a list of ints in new memory, no longer than its room. -/
def RetIx (w : World) (xs : List Int) (e : Ending) (w' : World) : Prop := ∃ (A : Option Addr) (c : Nat), e = .returned (.slice A xs.length c) ∧ xs.length ≤ c ∧ SlI w' w.heap.size A xs ∧ Nx w w'
set_option maxHeartbeats 1000000 in
theorem copyListI_c (A : Option Addr) (c B : Nat) (xs : List Int) (w : World) (h : Ins w B A xs) (hB : B ≤ w.heap.size) (hn : xs.length ≤ 1048576) :
    Calls Tryz.prog 180 #[.slice A xs.length c] w (RetIx w xs) := by
  rcases Nat.eq_zero_or_pos xs.length with hz | hp
  · have h0 : ((xs.length : Int) == 0) = true := beq_iff_eq.2 (by omega)
    have HZ := Lib.hid hz
    clear hz
    go_enter Tryz.func180, Tryz.ntmps180
    go_wp2
    go_ret
    exact ⟨none, 0, by rw [HZ.out]; rfl, by rw [HZ.out]; exact Nat.le_refl _, (fun h => absurd h (by rw [HZ.out]; omega)), Nx.refl _⟩
  have h0 : ((xs.length : Int) == 0) = false := beq_eq_false_iff_ne.2 (by omega)
  obtain ⟨i0, hi0, hz0, hz1, hz2⟩ := info_parts info_int
  have hmk := fun W => run_make_rowN (P := Tryz.prog) 27 3 i0 _ Tryz.underlying27 hi0 hz0 .i64 .i64 xs.length xs.length (Nat.le_refl _) (by rw [hz2]; omega) (by omega) W
  rw [hz1] at hmk
  have hmade := Own.made w #[Value.int .i64 0] xs.length 3
  have hnx := (Nx.refl w).alloc (.cells (madeCells #[Value.int .i64 0] xs.length) 3)
  obtain ⟨w1, hrun, ho1, hnx1, _, _⟩ := run_copy_new (P := Tryz.prog) (w.alloc (.cells (madeCells #[Value.int .i64 0] xs.length) 3)) 27 27 3 3 i0 1 Tryz.underlying27 hi0 hz1
    w.heap.size xs.length xs.length A xs.length c B xs.length 3 (inAt xs) _ hmade (by omega) (Nat.le_refl _) (by rw [Nat.mul_one]; exact h.below hnx hB) (inAt_one xs)
  have hx1 := hnx1 w hnx (Nat.le_refl _)
  have HO := Lib.hid (ho1.congr (f' := inAt xs) (fun k hk => by rw [if_pos (by omega)]))
  clear ho1 hnx1 hmade
  go_enter Tryz.func180, Tryz.ntmps180
  go_wp2
  go_ret
  exact ⟨_, _, rfl, Nat.le_refl _, Sl.own HO.out (Nat.le_refl _), hx1⟩
end Go.Proofs.YtehahodomfbpjaaGreatDoor
/- Contract of the program's superOfText. Conditions: the package's errors are known; the library's variable MaxLen holds a number. -/
namespace Go.Proofs.YtehahodomfbpjaaGreatDoor
set_option linter.unusedVariables false
set_option maxRecDepth 100000
open Go.RowKit

/-- What reading a super leaves: no super, and bad; or one in new memory, and good. -/
def RetSU (w : World) (o : Option U6) (bad good : Value) (e : Ending) (w' : World) : Prop :=
  Nx w w' ∧ (o = none → e = .returned (.tuple #[.agg #[.int .i64 0, .int .i64 0, .int .i64 0, .int .i64 0, .slice none 0 0, .slice none 0 0], bad])) ∧
  ∀ q : U6, o = some q → ∃ A c A2 c2, e = .returned (.tuple #[.agg #[.int .i64 q.1, .int .i64 q.2.1, .int .i64 q.2.2.1, .int .i64 q.2.2.2.1, .slice A q.2.2.2.2.1.length c, .slice A2 q.2.2.2.2.2.length c2], good]) ∧
    q.2.2.2.2.1.length ≤ c ∧ SlI w' w.heap.size A q.2.2.2.2.1 ∧ SlM w' w.heap.size A2 q.2.2.2.2.2
theorem RetSU.no {w w' : World} {o : Option U6} {bad good : Value} (h : o = none) (hn : Nx w w') : RetSU w o bad good (.returned (.tuple #[.agg #[.int .i64 0, .int .i64 0, .int .i64 0, .int .i64 0, .slice none 0 0, .slice none 0 0], bad])) w' :=
  ⟨hn, fun _ => rfl, fun q h2 => by rw [h] at h2; cases h2⟩
theorem RetSU.yes {w w' : World} {o : Option U6} {bad good : Value} {g b p t : Int} {xs : List Int} {ms : List Mrk} {c c2 : Nat} {A A2 : Option Addr} (h : o = some (g, b, p, t, xs, ms)) (hc : xs.length ≤ c) (hs : SlI w' w.heap.size A xs) (hm : SlM w' w.heap.size A2 ms) (hn : Nx w w') :
    RetSU w o bad good (.returned (.tuple #[.agg #[.int .i64 g, .int .i64 b, .int .i64 p, .int .i64 t, .slice A xs.length c, .slice A2 ms.length c2], good])) w' :=
  ⟨hn, (fun h2 => by rw [h] at h2; cases h2), fun q h2 => by rw [h] at h2; injection h2 with h2; subst h2; exact ⟨A, c, A2, c2, rfl, hc, hs, hm⟩⟩
/-- What is left of a list from its fifth element on. -/
def dropA (A : Option Addr) (c : Nat) : Option Addr := if c = 4 then A else A.map (·.add (4 * 1))
theorem drop_row {W : World} {B b off c : Nat} {ns : List Nat} (h : ∀ i, i < ns.length → W.cell? ⟨b, off + i, none⟩ = some (intAt ns i)) (hb : b < B) (hl : 4 ≤ ns.length) (hcp : ns.length ≤ c) : Ins W B (dropA (some ⟨b, off, none⟩) c) (intsN (ns.drop 4)) := fun hm => by
  have hl2 : (intsN (ns.drop 4)).length = ns.length - 4 := by rw [intsN_len, List.length_drop]
  rw [hl2] at hm
  refine ⟨b, off + 4, ?_, hb, fun i hi => ?_⟩
  · unfold dropA
    rw [if_neg (by omega)]
    simp [Addr.add]
  · rw [hl2] at hi
    rw [show off + 4 + i = off + (4 + i) by omega, h (4 + i) (by omega), intsN_at _ _ (by rw [List.length_drop]; omega)]
    unfold intAt
    rw [List.getD_eq_getElem?_getD, List.getD_eq_getElem?_getD, List.getElem?_drop]
theorem slice4 {o : Oper} {a : Act} {x : Operand} {A : Option Addr} {n c m : Nat} {W : World} (ho : o.op = .slice 27 x (some (.const (.int .i64 4))) none none) (hx : a.eval x = .slice A n c) (hl : 4 ≤ n) (hm : m = n - 4) :
    (execOp a.eval o).run Tryz.prog W = .ok (.value (.slice (dropA A c) m (c - 4))) W := by
  obtain ⟨i0, hi0, hz0, hz1, hz2⟩ := info_parts info_int
  subst hm
  have he : Tryz.prog.elem 27 = 3 := by kernel_rfl
  have h1 := run_slice_l (P := Tryz.prog) (w := W) 27 A n c (by rw [he]; exact Tryz.underlying27) .i64 4 (by omega) (by omega)
  rw [he] at h1
  have hc : a.eval (.const (.int .i64 4)) = .int .i64 4 := rfl
  unfold execOp
  have h2 := run_sliceAt_slice (P := Tryz.prog) (w := W) 27 (.slice A n c) (some (.int .i64 4)) none none (by rw [he]; exact Tryz.underlying27)
  simp only [ho, hx, hc, Option.map_some, Option.map_none]
  simp [h2, h1, sizeOf, typeInfo, hi0, hz1, sliced, dropA]
theorem marksL_from : ∀ {ws : List (List UInt8)} {ms : List Mrk} {m : Mrk}, marksL ws = some ms → m ∈ ms → ∃ w ∈ ws, wordM w = some m
  | [], ms, m, h, hm => by simp only [marksL, Option.some.injEq] at h; subst h; simp at hm
  | x :: ws, ms, m, h, hm => by
    rw [marksL] at h
    cases hx : wordM x with
    | none => rw [hx] at h; cases h
    | some q =>
      rw [hx, Option.bind_some] at h
      cases hw : marksL ws with
      | none => rw [hw] at h; cases h
      | some ns =>
        rw [hw, Option.map_some, Option.some.injEq] at h
        subst h
        rcases List.mem_cons.1 hm with rfl | hm
        · exact ⟨x, by simp, hx⟩
        · obtain ⟨w, hw', e⟩ := marksL_from hw hm
          exact ⟨w, by simp [hw'], e⟩
theorem wordM_size {l : List UInt8} {m : Mrk} (h : wordM l = some m) : m.1.size ≤ l.length := by
  unfold wordM at h
  split at h
  · injection h with h
    subst h
    show (baL _).size ≤ _
    rw [baL_size]
    exact (cut_len l 61).1
  · cases h
theorem marksO_fit {l : List UInt8} {ms : List Mrk} (hl : l.length ≤ 65536) (h : marksO l = some ms) : ms.length ≤ 1048576 ∧ AllM ms := by
  unfold marksO at h
  split at h
  · injection h with h; subst h
    exact ⟨by simp, fun k => by simp [mrZ]⟩
  · refine ⟨?_, fun k => ?_⟩
    · rw [marksL_len h]; have := cutL_size 44 l; omega
    · by_cases hk : k < ms.length
      · rw [List.getD_eq_getElem?_getD, List.getElem?_eq_getElem hk, Option.getD_some]
        obtain ⟨w, hw, e⟩ := marksL_from h (List.getElem_mem hk)
        have h1 := wordM_size e
        have h2 := cutL_part hw
        omega
      · rw [List.getD_eq_getElem?_getD, List.getElem?_eq_none (by omega)]; simp [mrZ]
theorem numsO_fit {l : List UInt8} {ns : List Nat} (h : numsO l = some ns) : ns.length ≤ l.length := by
  unfold numsO at h
  split at h
  · injection h with h; subst h; rw [numsOf_len]; omega
  · cases h

set_option maxHeartbeats 1600000 in
theorem superOfText_c (t : ByteArray) (w : World) (a0 a1 : Addr) (ht : t.size ≤ 65536) (hE : Er w a0 a1) (hM : Mx w) : Calls Tryz.prog 113 #[.string t] w (RetSU w (rdU t) (.iface 304 (.pointer (some a0))) .nilIface) := by
  have e0 := hE.1
  have hg0 : 0 < w.heap.size := World.block_lt_of_cell? w _ e0
  have b0 := Box.new w 30 #[.int .i64 0, .int .i64 0, .int .i64 0, .int .i64 0, .slice none 0 0, .slice none 0 0]
  have hx0 := (Nx.refl w).alloc (.cells #[.int .i64 0, .int .i64 0, .int .i64 0, .int .i64 0, .slice none 0 0, .slice none 0 0] 30)
  go_enter Tryz.func113, Tryz.ntmps113
  go_wp2_with fail
  generalize w.alloc (.cells #[.int .i64 0, .int .i64 0, .int .i64 0, .int .i64 0, .slice none 0 0, .slice none 0 0] 30) = W at *
  refine (unsealed_c t _ a0 a1 ht (hE.nx hx0)).mono ?_
  rintro e w1 ⟨hnx1, h1, h2⟩
  have b1 := b0.nx hnx1
  have hx1 := hx0.trans hnx1
  clear b0 hx0 hnx1
  cases ho : opensB t with
  | false =>
    obtain rfl := h1 ho
    have HF := Lib.hid (rdU_shut ho)
    clear h1 h2 ho
    obtain ⟨u0, u1, u2, u3, u4, u5⟩ := b1.d6
    have f0 := b1.frozen 0
    have f1 := b1.frozen 1
    have f2 := b1.frozen 2
    have f3 := b1.frozen 3
    have f4 := b1.frozen 4
    have f5 := b1.frozen 5
    go_wp2
    have q := (put6_box b1 (.int .i64 0) (.int .i64 0) (.int .i64 0) (.int .i64 0) (.slice none 0 0) (.slice none 0 0))
    have hnf := (put6_nx hx1 (Nat.le_refl w.heap.size) (.int .i64 0) (.int .i64 0) (.int .i64 0) (.int .i64 0) (.slice none 0 0) (.slice none 0 0))
    change bodyPost _ _ _ _ _ (put6 w1 w.heap.size (.int .i64 0) (.int .i64 0) (.int .i64 0) (.int .i64 0) (.slice none 0 0) (.slice none 0 0))
    change Box (put6 w1 w.heap.size (.int .i64 0) (.int .i64 0) (.int .i64 0) (.int .i64 0) (.slice none 0 0) (.slice none 0 0)) _ _ _ at q
    generalize put6 w1 w.heap.size (.int .i64 0) (.int .i64 0) (.int .i64 0) (.int .i64 0) (.slice none 0 0) (.slice none 0 0) = Wf at *
    obtain ⟨g0, g1, g2, g3, g4, g5⟩ := q.d6
    exact bodyPost_ret (v := .tuple #[.agg #[.int .i64 0, .int .i64 0, .int .i64 0, .int .i64 0, .slice none 0 0, .slice none 0 0], .iface 304 (.pointer (some a0))]) (by simp [results, Tryz.results113, go_sem, g0, g1, g2, g3, g4, g5]) rfl (RetSU.no HF.out hnf)
  | true =>
    obtain rfl := h2 ho
    clear h1 h2
    have hbs := bodyOf_size t
    go_wp2_with fail
    refine (cut_c (bodyOf t) 124 _ (by omega) (hM.nx hx1)).mono ?_
    rintro e w2 ⟨he, hnx2⟩
    have b2 := b1.nx hnx2
    have hx2 := hx1.trans hnx2
    clear b1 hx1 hnx2
    rcases part_at 124 (bodyOf t).data.toList with hm | ⟨la, lb, hna, hab⟩
    · rw [cut_miss hm] at he
      have HF := Lib.hid (rdU_miss hm)
      clear hm ho hbs
      simp only at he
      generalize baL (bodyOf t).data.toList = z1 at he
      generalize baL [] = z2 at he
      subst he
      obtain ⟨u0, u1, u2, u3, u4, u5⟩ := b2.d6
      have f0 := b2.frozen 0
      have f1 := b2.frozen 1
      have f2 := b2.frozen 2
      have f3 := b2.frozen 3
      have f4 := b2.frozen 4
      have f5 := b2.frozen 5
      have hlt9 := b2.lt
      go_wp2_with fail
      refine wp_region_lex [false, false, true, false] (fun w' => w'.cell? ⟨0, 0, none⟩ = some (.iface 304 (.pointer (some a0)))) (by kernel_rfl) (by kernel_rfl) rfl (by kernel_rfl) (fun _ _ d _ _ h => by cases d <;> exact h) (by exact ((hx2.drew).cell (p := ⟨0, 0, none⟩) hg0).trans e0) ?_
      repeat (first | (refine HL.take (v := ?_) (by rfl) ?_ ?_; rotate_left; (· (intro w hSw; (try dsimp only at hSw); go_simp; try with_reducible rfl)); (try simp only [Act.put, List.setIfInBounds_toArray, List.set_cons_zero, List.set_cons_succ])) | (refine HL.skip (by rfl) ?_; (try simp only [Act.put, List.setIfInBounds_toArray, List.set_cons_zero, List.set_cons_succ])))
      refine HL.call (by rfl) (fun K hK => ?_)
      go_simp
      refine hK.out _ _ (by exact ((put6_nx hx2 (Nat.le_refl w.heap.size) (.int .i64 0) (.int .i64 0) (.int .i64 0) (.int .i64 0) (.slice none 0 0) (.slice none 0 0)).drew.cell (p := ⟨0, 0, none⟩) hg0).trans e0) ?_
      clear hK K
      try simp only [Act.put, List.setIfInBounds_toArray, List.set_cons_zero, List.set_cons_succ]
      repeat (first | (refine HL.take (v := ?_) (by rfl) ?_ ?_; rotate_left; (· (intro w hSw; (try dsimp only at hSw); go_simp; try with_reducible rfl)); (try simp only [Act.put, List.setIfInBounds_toArray, List.set_cons_zero, List.set_cons_succ])) | (refine HL.skip (by rfl) ?_; (try simp only [Act.put, List.setIfInBounds_toArray, List.set_cons_zero, List.set_cons_succ])))
      refine HL.done ?_
      clear u0 u1 u2 u3 u4 u5 f0 f1 f2 f3 f4 f5
      go_wp2
      have q := (put6_box b2 (.int .i64 0) (.int .i64 0) (.int .i64 0) (.int .i64 0) (.slice none 0 0) (.slice none 0 0)).drew
      have hnf := (put6_nx hx2 (Nat.le_refl w.heap.size) (.int .i64 0) (.int .i64 0) (.int .i64 0) (.int .i64 0) (.slice none 0 0) (.slice none 0 0)).drew
      change bodyPost _ _ _ _ _ (World.drew (put6 w2 w.heap.size (.int .i64 0) (.int .i64 0) (.int .i64 0) (.int .i64 0) (.slice none 0 0) (.slice none 0 0)))
      change Box (World.drew (put6 w2 w.heap.size (.int .i64 0) (.int .i64 0) (.int .i64 0) (.int .i64 0) (.slice none 0 0) (.slice none 0 0))) _ _ _ at q
      generalize World.drew (put6 w2 w.heap.size (.int .i64 0) (.int .i64 0) (.int .i64 0) (.int .i64 0) (.slice none 0 0) (.slice none 0 0)) = Wf at *
      obtain ⟨g0, g1, g2, g3, g4, g5⟩ := q.d6
      exact bodyPost_ret (v := .tuple #[.agg #[.int .i64 0, .int .i64 0, .int .i64 0, .int .i64 0, .slice none 0 0, .slice none 0 0], .iface 304 (.pointer (some a0))]) (by simp [results, Tryz.results113, go_sem, g0, g1, g2, g3, g4, g5]) rfl (RetSU.no HF.out hnf)
    · rw [hab, cut_hit hna] at he
      have HPu := Lib.hid (rdU_hit ho hna hab)
      have hla : (baL la).size ≤ 65536 := by rw [baL_size]; have := congrArg List.length hab; rw [← ba_size] at this; simp only [List.length_append, List.length_cons] at this; omega
      have hlb : (baL lb).size ≤ 65536 := by rw [baL_size]; have := congrArg List.length hab; rw [← ba_size] at this; simp only [List.length_append, List.length_cons] at this; omega
      have HLb : Hid (lb.length ≤ 65536) := Lib.hid (by rw [← baL_size]; exact hlb)
      have HLa : Hid (la.length ≤ 65536) := Lib.hid (by rw [← baL_size]; exact hla)
      clear hab hna ho hbs
      subst he
      obtain ⟨sa, Hsa⟩ : ∃ x, Hid (baL la = x) := ⟨_, rfl⟩
      obtain ⟨sb, Hsb⟩ : ∃ x, Hid (baL lb = x) := ⟨_, rfl⟩
      have Hda := Lib.hid (show sa.data.toList = la by rw [← Hsa.out]; rfl)
      have Hdb := Lib.hid (show sb.data.toList = lb by rw [← Hsb.out]; rfl)
      rw [Hsa.out] at hla
      rw [Hsb.out] at hlb
      rw [Hsa.out, Hsb.out]
      go_wp2_with fail
      refine (numbersOf_c sa _ a0 a1 hla (hE.nx hx2)).mono ?_
      rintro e w3 ⟨hnx3, h1, h2⟩
      rw [Hda.out] at h1 h2
      have b3 := b2.nx hnx3
      have hx3 := hx2.trans hnx3
      clear b2 hx2 hnx3
      cases hn : numsO la with
      | none =>
        obtain rfl := h1 hn
        have HF := Lib.hid (HPu.out.trans (partU_nums hn))
        clear h1 h2 hn
        obtain ⟨u0, u1, u2, u3, u4, u5⟩ := b3.d6
        have f0 := b3.frozen 0
        have f1 := b3.frozen 1
        have f2 := b3.frozen 2
        have f3 := b3.frozen 3
        have f4 := b3.frozen 4
        have f5 := b3.frozen 5
        go_wp2
        have q := (put6_box b3 (.int .i64 0) (.int .i64 0) (.int .i64 0) (.int .i64 0) (.slice none 0 0) (.slice none 0 0))
        have hnf := (put6_nx hx3 (Nat.le_refl w.heap.size) (.int .i64 0) (.int .i64 0) (.int .i64 0) (.int .i64 0) (.slice none 0 0) (.slice none 0 0))
        change bodyPost _ _ _ _ _ (put6 w3 w.heap.size (.int .i64 0) (.int .i64 0) (.int .i64 0) (.int .i64 0) (.slice none 0 0) (.slice none 0 0))
        change Box (put6 w3 w.heap.size (.int .i64 0) (.int .i64 0) (.int .i64 0) (.int .i64 0) (.slice none 0 0) (.slice none 0 0)) _ _ _ at q
        generalize put6 w3 w.heap.size (.int .i64 0) (.int .i64 0) (.int .i64 0) (.int .i64 0) (.slice none 0 0) (.slice none 0 0) = Wf at *
        obtain ⟨g0, g1, g2, g3, g4, g5⟩ := q.d6
        exact bodyPost_ret (v := .tuple #[.agg #[.int .i64 0, .int .i64 0, .int .i64 0, .int .i64 0, .slice none 0 0, .slice none 0 0], .iface 304 (.pointer (some a0))]) (by simp [results, Tryz.results113, go_sem, g0, g1, g2, g3, g4, g5]) rfl (RetSU.no HF.out hnf)
      | some ns =>
        obtain ⟨A, c, rfl, hrow, hcp⟩ := h2 ns hn
        clear h1 h2
        by_cases hl4 : 4 ≤ ns.length
        case neg =>
          have HF := Lib.hid (HPu.out.trans (partU_few hn (by omega)))
          have hd4 : decide ((ns.length : Int) < 4) = true := by simp; omega
          clear hn hcp hl4
          obtain ⟨u0, u1, u2, u3, u4, u5⟩ := b3.d6
          have f0 := b3.frozen 0
          have f1 := b3.frozen 1
          have f2 := b3.frozen 2
          have f3 := b3.frozen 3
          have f4 := b3.frozen 4
          have f5 := b3.frozen 5
          have hlt9 := b3.lt
          go_wp2_with fail
          refine wp_region_lex [false, false, true, false] (fun w' => w'.cell? ⟨0, 0, none⟩ = some (.iface 304 (.pointer (some a0)))) (by kernel_rfl) (by kernel_rfl) rfl (by kernel_rfl) (fun _ _ d _ _ h => by cases d <;> exact h) (by exact ((hx3.drew).cell (p := ⟨0, 0, none⟩) hg0).trans e0) ?_
          repeat (first | (refine HL.take (v := ?_) (by rfl) ?_ ?_; rotate_left; (· (intro w hSw; (try dsimp only at hSw); go_simp; try with_reducible rfl)); (try simp only [Act.put, List.setIfInBounds_toArray, List.set_cons_zero, List.set_cons_succ])) | (refine HL.skip (by rfl) ?_; (try simp only [Act.put, List.setIfInBounds_toArray, List.set_cons_zero, List.set_cons_succ])))
          refine HL.call (by rfl) (fun K hK => ?_)
          go_simp
          refine hK.out _ _ (by exact ((put6_nx hx3 (Nat.le_refl w.heap.size) (.int .i64 0) (.int .i64 0) (.int .i64 0) (.int .i64 0) (.slice none 0 0) (.slice none 0 0)).drew.cell (p := ⟨0, 0, none⟩) hg0).trans e0) ?_
          clear hK K
          try simp only [Act.put, List.setIfInBounds_toArray, List.set_cons_zero, List.set_cons_succ]
          repeat (first | (refine HL.take (v := ?_) (by rfl) ?_ ?_; rotate_left; (· (intro w hSw; (try dsimp only at hSw); go_simp; try with_reducible rfl)); (try simp only [Act.put, List.setIfInBounds_toArray, List.set_cons_zero, List.set_cons_succ])) | (refine HL.skip (by rfl) ?_; (try simp only [Act.put, List.setIfInBounds_toArray, List.set_cons_zero, List.set_cons_succ])))
          refine HL.done ?_
          clear u0 u1 u2 u3 u4 u5 f0 f1 f2 f3 f4 f5
          go_wp2
          have q := (put6_box b3 (.int .i64 0) (.int .i64 0) (.int .i64 0) (.int .i64 0) (.slice none 0 0) (.slice none 0 0)).drew
          have hnf := (put6_nx hx3 (Nat.le_refl w.heap.size) (.int .i64 0) (.int .i64 0) (.int .i64 0) (.int .i64 0) (.slice none 0 0) (.slice none 0 0)).drew
          change bodyPost _ _ _ _ _ (World.drew (put6 w3 w.heap.size (.int .i64 0) (.int .i64 0) (.int .i64 0) (.int .i64 0) (.slice none 0 0) (.slice none 0 0)))
          change Box (World.drew (put6 w3 w.heap.size (.int .i64 0) (.int .i64 0) (.int .i64 0) (.int .i64 0) (.slice none 0 0) (.slice none 0 0))) _ _ _ at q
          generalize World.drew (put6 w3 w.heap.size (.int .i64 0) (.int .i64 0) (.int .i64 0) (.int .i64 0) (.slice none 0 0) (.slice none 0 0)) = Wf at *
          obtain ⟨g0, g1, g2, g3, g4, g5⟩ := q.d6
          exact bodyPost_ret (v := .tuple #[.agg #[.int .i64 0, .int .i64 0, .int .i64 0, .int .i64 0, .slice none 0 0, .slice none 0 0], .iface 304 (.pointer (some a0))]) (by simp [results, Tryz.results113, go_sem, g0, g1, g2, g3, g4, g5]) rfl (RetSU.no HF.out hnf)
        have hd4 : decide ((ns.length : Int) < 4) = false := by simp; omega
        have HNs := Lib.hid hn
        have hnl : ns.length ≤ 65536 := by have := numsO_fit hn; have := HLa.out; omega
        clear hn
        go_wp2_with fail
        refine (marksOf_c sb _ a0 a1 hlb (hE.nx hx3) (hM.nx hx3)).mono ?_
        rintro e w4 ⟨hnx4, h1, h2⟩
        rw [Hdb.out] at h1 h2
        have b4 := b3.nx hnx4
        have hx4 := hx3.trans hnx4
        have hrow4 := hrow.below hnx4 (Nat.le_refl _)
        have hsz4 := hnx4.size
        have hsz3 := hx3.size
        have hlt3 := b3.lt
        clear b3 hx3 hrow
        cases hmk : marksO lb with
        | none =>
          obtain rfl := h1 hmk
          have HF := Lib.hid (HPu.out.trans (partU_marks HNs.out hmk))
          clear h1 h2 hmk
          obtain ⟨u0, u1, u2, u3, u4, u5⟩ := b4.d6
          have f0 := b4.frozen 0
          have f1 := b4.frozen 1
          have f2 := b4.frozen 2
          have f3 := b4.frozen 3
          have f4 := b4.frozen 4
          have f5 := b4.frozen 5
          go_wp2
          have q := (put6_box b4 (.int .i64 0) (.int .i64 0) (.int .i64 0) (.int .i64 0) (.slice none 0 0) (.slice none 0 0))
          have hnf := (put6_nx hx4 (Nat.le_refl w.heap.size) (.int .i64 0) (.int .i64 0) (.int .i64 0) (.int .i64 0) (.slice none 0 0) (.slice none 0 0))
          change bodyPost _ _ _ _ _ (put6 w4 w.heap.size (.int .i64 0) (.int .i64 0) (.int .i64 0) (.int .i64 0) (.slice none 0 0) (.slice none 0 0))
          change Box (put6 w4 w.heap.size (.int .i64 0) (.int .i64 0) (.int .i64 0) (.int .i64 0) (.slice none 0 0) (.slice none 0 0)) _ _ _ at q
          generalize put6 w4 w.heap.size (.int .i64 0) (.int .i64 0) (.int .i64 0) (.int .i64 0) (.slice none 0 0) (.slice none 0 0) = Wf at *
          obtain ⟨g0, g1, g2, g3, g4, g5⟩ := q.d6
          exact bodyPost_ret (v := .tuple #[.agg #[.int .i64 0, .int .i64 0, .int .i64 0, .int .i64 0, .slice none 0 0, .slice none 0 0], .iface 304 (.pointer (some a0))]) (by simp [results, Tryz.results113, go_sem, g0, g1, g2, g3, g4, g5]) rfl (RetSU.no HF.out hnf)
        | some ms =>
        obtain ⟨A3, c3, rfl, hM4'⟩ := h2 ms hmk
        have hM4 := hM4'
        have hfit := marksO_fit HLb.out hmk
        have hml := hfit.1
        have HAm := Lib.hid hfit.2
        have HU := Lib.hid (HPu.out.trans (partU_yes HNs.out hl4 hmk))
        clear h1 h2 hmk hfit hnx4 hM4'
        obtain ⟨b, off, rfl, hb3, hcl⟩ := hrow4 (by omega)
        have hb : b < w4.heap.size := by omega
        have HRow := Lib.hid (fun W (hW : Nx w4 W) => drop_row (W := W) (B := w4.heap.size) (c := c) (fun i hi => (hW.cell (p := ⟨b, off + i, none⟩) hb).trans (hcl i hi)) hb hl4 hcp)
        obtain ⟨n0, Hn0⟩ : ∃ n, Hid (ns.getD 0 0 = n) := ⟨_, rfl⟩
        obtain ⟨n1, Hn1⟩ : ∃ n, Hid (ns.getD 1 0 = n) := ⟨_, rfl⟩
        obtain ⟨n2, Hn2⟩ : ∃ n, Hid (ns.getD 2 0 = n) := ⟨_, rfl⟩
        obtain ⟨n3, Hn3⟩ : ∃ n, Hid (ns.getD 3 0 = n) := ⟨_, rfl⟩
        have k0 : w4.cell? ⟨b, off, none⟩ = some (.int .i64 n0) := by have := hcl 0 (by omega); unfold intAt at this; rw [Hn0.out] at this; exact this
        have k1 : w4.cell? ⟨b, off + 1, none⟩ = some (.int .i64 n1) := by have := hcl 1 (by omega); unfold intAt at this; rw [Hn1.out] at this; exact this
        have k2 : w4.cell? ⟨b, off + 2, none⟩ = some (.int .i64 n2) := by have := hcl 2 (by omega); unfold intAt at this; rw [Hn2.out] at this; exact this
        have k3 : w4.cell? ⟨b, off + 3, none⟩ = some (.int .i64 n3) := by have := hcl 3 (by omega); unfold intAt at this; rw [Hn3.out] at this; exact this
        obtain ⟨xs, Hxs⟩ : ∃ xs, Hid (intsN (ns.drop 4) = xs) := ⟨_, rfl⟩
        have HLen : Hid (xs.length = ns.length - 4) := Lib.hid (by rw [← Hxs.out, intsN_len, List.length_drop])
        rw [Hxs.out] at HRow
        have HUx := Lib.hid Hxs.out
        have hi0' : (0 : Int) < (ns.length : Int) := by omega
        have hi1' : (1 : Int) < (ns.length : Int) := by omega
        have hi2' : (2 : Int) < (ns.length : Int) := by omega
        have hi3' : (3 : Int) < (ns.length : Int) := by omega
        have hm0 : 0 < ns.length := by omega
        have hm1 : 1 < ns.length := by omega
        have hm2 : 2 < ns.length := by omega
        have hm3 : 3 < ns.length := by omega
        clear hcl hrow4
        go_wp2_with fail
        refine wp_region_plan (.t 0 (.t 1 (.t 2 (.t 3 (.t 4 (.t 5 (.t 6 (.t 7 (.t 8 (.t 9 (.t 10 (.t 11 (.t 12 (.t 13 (.t 15 (.b 14 (.t 16 (.c 17 (.c 18 .e))) 17 (.c 14 (.t 16 (.c 18 .e))))))))))))))))))) (fun w' => w'.cell? ⟨b, off, none⟩ = some (.int .i64 n0) ∧ w'.cell? ⟨b, off + 1, none⟩ = some (.int .i64 n1) ∧ w'.cell? ⟨b, off + 2, none⟩ = some (.int .i64 n2) ∧ w'.cell? ⟨b, off + 3, none⟩ = some (.int .i64 n3)) (by kernel_rfl) (by kernel_rfl) rfl (by kernel_rfl) (fun _ _ d _ _ h => by cases d <;> exact h) (by exact ⟨((Nx.refl w4).drew.cell (p := ⟨b, off, none⟩) hb).trans k0, ((Nx.refl w4).drew.cell (p := ⟨b, off + 1, none⟩) hb).trans k1, ((Nx.refl w4).drew.cell (p := ⟨b, off + 2, none⟩) hb).trans k2, ((Nx.refl w4).drew.cell (p := ⟨b, off + 3, none⟩) hb).trans k3⟩) ?_
        simp only [psOf, List.getD_cons_zero, List.getD_cons_succ]
        iterate 13 (refine HP.take (v := ?_) (by rfl) ?_ ?_; rotate_left; (· (intro w hSw; (try dsimp only at hSw); go_simp; try with_reducible rfl)); (try simp only [Act.put, List.setIfInBounds_toArray, List.set_cons_zero, List.set_cons_succ]))
        refine HP.take (v := .slice (dropA (some ⟨b, off, none⟩) c) xs.length (c - 4)) (by rfl) (fun W _ => slice4 rfl rfl hl4 HLen.out) ?_
        try simp only [Act.put, List.setIfInBounds_toArray, List.set_cons_zero, List.set_cons_succ]
        iterate 1 (refine HP.take (v := ?_) (by rfl) ?_ ?_; rotate_left; (· (intro w hSw; (try dsimp only at hSw); go_simp; try with_reducible rfl)); (try simp only [Act.put, List.setIfInBounds_toArray, List.set_cons_zero, List.set_cons_succ]))
        refine HP.both ?_ ?_
        · refine CallStep.mk (by rfl) (fun K hK => ?_)
          go_simp
          refine (copyListI_c (dropA (some ⟨b, off, none⟩) c) (c - 4) _ xs _ (HRow.out _ (Nx.refl w4).drew) (Nx.refl w4).drew.size (by have := HLen.out; omega)).mono ?_
          rintro e w5 ⟨A5, c5, rfl, hc5, hS5, hnx5⟩
          go_wp2_with fail
          refine hK.out _ _ (by exact ⟨(((Nx.refl w4).drew.trans hnx5).cell (p := ⟨b, off, none⟩) hb).trans k0, (((Nx.refl w4).drew.trans hnx5).cell (p := ⟨b, off + 1, none⟩) hb).trans k1, (((Nx.refl w4).drew.trans hnx5).cell (p := ⟨b, off + 2, none⟩) hb).trans k2, (((Nx.refl w4).drew.trans hnx5).cell (p := ⟨b, off + 3, none⟩) hb).trans k3⟩) ?_
          clear hK K
          try simp only [Act.put, List.setIfInBounds_toArray, List.set_cons_zero, List.set_cons_succ]
          repeat (first | (refine HP.take (v := ?_) (by rfl) ?_ ?_; rotate_left; (· (intro w hSw; (try dsimp only at hSw); go_simp; try with_reducible rfl)); (try simp only [Act.put, List.setIfInBounds_toArray, List.set_cons_zero, List.set_cons_succ])) | (refine HP.skip (by rfl) ?_; (try simp only [Act.put, List.setIfInBounds_toArray, List.set_cons_zero, List.set_cons_succ])))
          refine HP.call ?_
          refine CallStep.mk (by rfl) (fun K hK => ?_)
          go_simp
          refine hK.out _ _ (by exact ⟨((((Nx.refl w4).drew.trans hnx5).alloc (.cells #[.int .i64 0, .int .i64 0, .int .i64 0, .int .i64 0, .slice none 0 0, .slice none 0 0] 30)).cell (p := ⟨b, off, none⟩) hb).trans k0, ((((Nx.refl w4).drew.trans hnx5).alloc (.cells #[.int .i64 0, .int .i64 0, .int .i64 0, .int .i64 0, .slice none 0 0, .slice none 0 0] 30)).cell (p := ⟨b, off + 1, none⟩) hb).trans k1, ((((Nx.refl w4).drew.trans hnx5).alloc (.cells #[.int .i64 0, .int .i64 0, .int .i64 0, .int .i64 0, .slice none 0 0, .slice none 0 0] 30)).cell (p := ⟨b, off + 2, none⟩) hb).trans k2, ((((Nx.refl w4).drew.trans hnx5).alloc (.cells #[.int .i64 0, .int .i64 0, .int .i64 0, .int .i64 0, .slice none 0 0, .slice none 0 0] 30)).cell (p := ⟨b, off + 3, none⟩) hb).trans k3⟩) ?_
          clear hK K
          try simp only [Act.put, List.setIfInBounds_toArray, List.set_cons_zero, List.set_cons_succ]
          refine HP.call ?_
          refine CallStep.mk (by rfl) (fun K hK => ?_)
          go_simp
          refine hK.out _ _ (by exact ⟨((((Nx.refl w4).drew.trans hnx5).alloc (.cells #[.int .i64 n0, .int .i64 n1, .int .i64 n2, .int .i64 n3, .slice A5 xs.length c5, .slice A3 ms.length c3] 30)).cell (p := ⟨b, off, none⟩) hb).trans k0, ((((Nx.refl w4).drew.trans hnx5).alloc (.cells #[.int .i64 n0, .int .i64 n1, .int .i64 n2, .int .i64 n3, .slice A5 xs.length c5, .slice A3 ms.length c3] 30)).cell (p := ⟨b, off + 1, none⟩) hb).trans k1, ((((Nx.refl w4).drew.trans hnx5).alloc (.cells #[.int .i64 n0, .int .i64 n1, .int .i64 n2, .int .i64 n3, .slice A5 xs.length c5, .slice A3 ms.length c3] 30)).cell (p := ⟨b, off + 2, none⟩) hb).trans k2, ((((Nx.refl w4).drew.trans hnx5).alloc (.cells #[.int .i64 n0, .int .i64 n1, .int .i64 n2, .int .i64 n3, .slice A5 xs.length c5, .slice A3 ms.length c3] 30)).cell (p := ⟨b, off + 3, none⟩) hb).trans k3⟩) ?_
          clear hK K
          try simp only [Act.put, List.setIfInBounds_toArray, List.set_cons_zero, List.set_cons_succ]
          refine HP.done ?_
          have bs := Box.new w5 30 #[.int .i64 n0, .int .i64 n1, .int .i64 n2, .int .i64 n3, .slice A5 xs.length c5, .slice A3 ms.length c3]
          have hx6 := (((Nx.refl w4).drew.trans hnx5).alloc (.cells #[.int .i64 n0, .int .i64 n1, .int .i64 n2, .int .i64 n3, .slice A5 xs.length c5, .slice A3 ms.length c3] 30))
          have hS5b : SlI w5 w4.heap.size A5 xs := hS5
          have hS6 := hS5b.nx ((Nx.refl w5).alloc (.cells #[.int .i64 n0, .int .i64 n1, .int .i64 n2, .int .i64 n3, .slice A5 xs.length c5, .slice A3 ms.length c3] 30))
          have hM6 := ((hM4.nx (Nx.refl w4).drew).nx hnx5).nx ((Nx.refl w5).alloc (.cells #[.int .i64 n0, .int .i64 n1, .int .i64 n2, .int .i64 n3, .slice A5 xs.length c5, .slice A3 ms.length c3] 30))
          change Exit.then _ _ _ _ (w5.alloc (.cells #[.int .i64 n0, .int .i64 n1, .int .i64 n2, .int .i64 n3, .slice A5 xs.length c5, .slice A3 ms.length c3] 30))
          generalize w5.alloc (.cells #[.int .i64 n0, .int .i64 n1, .int .i64 n2, .int .i64 n3, .slice A5 xs.length c5, .slice A3 ms.length c3] 30) = w6 at *
          generalize w5.heap.size = gS at *
          have b6 := b4.nx hx6
          have hxw6 := hx4.trans hx6
          have hgl5 : w.heap.size < w4.heap.size := b4.lt
          obtain ⟨y0, y1, y2, y3, y4, y5⟩ := bs.d6
          go_wp2_with fail
          refine (superRight_c n0 n1 n2 n3 A5 A3 c5 c3 _ xs ms _ hS6.row hM6.row (Nat.le_refl _) (by have := HLen.out; omega) hml hc5 HAm.out).mono ?_
          rintro e w7 ⟨rfl, hnx7⟩
          have b7 := b6.nx hnx7
          have bs7 := bs.nx hnx7
          have hx7 := hxw6.trans hnx7
          have hS7 := hS6.nx hnx7
          have hM7 := hM6.nx hnx7
          clear y0 y1 y2 y3 y4 y5
          obtain ⟨y0, y1, y2, y3, y4, y5⟩ := bs7.d6
          cases hf : superB n0 n1 n2 n3 xs ms with
          | false =>
            have HF := Lib.hid (HU.out.trans (supOf_no (by rw [Hn0.out, Hn1.out, Hn2.out, Hn3.out, Hxs.out]; exact hf)))
            clear hf
            obtain ⟨u0, u1, u2, u3, u4, u5⟩ := b7.d6
            have f0 := b7.frozen 0
            have f1 := b7.frozen 1
            have f2 := b7.frozen 2
            have f3 := b7.frozen 3
            have f4 := b7.frozen 4
            have f5 := b7.frozen 5
            have hlt9 := b7.lt
            go_wp2_with fail
            refine wp_region_lex [false, false, true, false] (fun w' => w'.cell? ⟨0, 0, none⟩ = some (.iface 304 (.pointer (some a0)))) (by kernel_rfl) (by kernel_rfl) rfl (by kernel_rfl) (fun _ _ d _ _ h => by cases d <;> exact h) (by exact ((hx7.drew).cell (p := ⟨0, 0, none⟩) hg0).trans e0) ?_
            repeat (first | (refine HL.take (v := ?_) (by rfl) ?_ ?_; rotate_left; (· (intro w hSw; (try dsimp only at hSw); go_simp; try with_reducible rfl)); (try simp only [Act.put, List.setIfInBounds_toArray, List.set_cons_zero, List.set_cons_succ])) | (refine HL.skip (by rfl) ?_; (try simp only [Act.put, List.setIfInBounds_toArray, List.set_cons_zero, List.set_cons_succ])))
            refine HL.call (by rfl) (fun K hK => ?_)
            go_simp
            refine hK.out _ _ (by exact ((put6_nx hx7 (Nat.le_refl w.heap.size) (.int .i64 0) (.int .i64 0) (.int .i64 0) (.int .i64 0) (.slice none 0 0) (.slice none 0 0)).drew.cell (p := ⟨0, 0, none⟩) hg0).trans e0) ?_
            clear hK K
            try simp only [Act.put, List.setIfInBounds_toArray, List.set_cons_zero, List.set_cons_succ]
            repeat (first | (refine HL.take (v := ?_) (by rfl) ?_ ?_; rotate_left; (· (intro w hSw; (try dsimp only at hSw); go_simp; try with_reducible rfl)); (try simp only [Act.put, List.setIfInBounds_toArray, List.set_cons_zero, List.set_cons_succ])) | (refine HL.skip (by rfl) ?_; (try simp only [Act.put, List.setIfInBounds_toArray, List.set_cons_zero, List.set_cons_succ])))
            refine HL.done ?_
            clear u0 u1 u2 u3 u4 u5 f0 f1 f2 f3 f4 f5
            go_wp2
            have q := (put6_box b7 (.int .i64 0) (.int .i64 0) (.int .i64 0) (.int .i64 0) (.slice none 0 0) (.slice none 0 0)).drew
            have hnf := (put6_nx hx7 (Nat.le_refl w.heap.size) (.int .i64 0) (.int .i64 0) (.int .i64 0) (.int .i64 0) (.slice none 0 0) (.slice none 0 0)).drew
            change bodyPost _ _ _ _ _ (World.drew (put6 w7 w.heap.size (.int .i64 0) (.int .i64 0) (.int .i64 0) (.int .i64 0) (.slice none 0 0) (.slice none 0 0)))
            change Box (World.drew (put6 w7 w.heap.size (.int .i64 0) (.int .i64 0) (.int .i64 0) (.int .i64 0) (.slice none 0 0) (.slice none 0 0))) _ _ _ at q
            generalize World.drew (put6 w7 w.heap.size (.int .i64 0) (.int .i64 0) (.int .i64 0) (.int .i64 0) (.slice none 0 0) (.slice none 0 0)) = Wf at *
            obtain ⟨g0, g1, g2, g3, g4, g5⟩ := q.d6
            exact bodyPost_ret (v := .tuple #[.agg #[.int .i64 0, .int .i64 0, .int .i64 0, .int .i64 0, .slice none 0 0, .slice none 0 0], .iface 304 (.pointer (some a0))]) (by simp [results, Tryz.results113, go_sem, g0, g1, g2, g3, g4, g5]) rfl (RetSU.no HF.out hnf)
          | true =>
            have HF := Lib.hid (HU.out.trans (supOf_yes (by rw [Hn0.out, Hn1.out, Hn2.out, Hn3.out, Hxs.out]; exact hf)))
            rw [Hn0.out, Hn1.out, Hn2.out, Hn3.out, Hxs.out] at HF
            clear hf
            have hgl : w.heap.size < w4.heap.size := b4.lt
            obtain ⟨u0, u1, u2, u3, u4, u5⟩ := b7.d6
            have f0 := b7.frozen 0
            have f1 := b7.frozen 1
            have f2 := b7.frozen 2
            have f3 := b7.frozen 3
            have f4 := b7.frozen 4
            have f5 := b7.frozen 5
            go_wp2
            have q := (put6_box b7 (.int .i64 n0) (.int .i64 n1) (.int .i64 n2) (.int .i64 n3) (.slice A5 xs.length c5) (.slice A3 ms.length c3))
            have hnf := (put6_nx hx7 (Nat.le_refl w.heap.size) (.int .i64 n0) (.int .i64 n1) (.int .i64 n2) (.int .i64 n3) (.slice A5 xs.length c5) (.slice A3 ms.length c3))
            have hsf := (hS7.pt6 hgl (.int .i64 n0) (.int .i64 n1) (.int .i64 n2) (.int .i64 n3) (.slice A5 xs.length c5) (.slice A3 ms.length c3))
            change Sl (put6 w7 w.heap.size (.int .i64 n0) (.int .i64 n1) (.int .i64 n2) (.int .i64 n3) (.slice A5 xs.length c5) (.slice A3 ms.length c3)) _ _ _ _ _ at hsf
            have hmf := (hM7.pt6 hlt3 (.int .i64 n0) (.int .i64 n1) (.int .i64 n2) (.int .i64 n3) (.slice A5 xs.length c5) (.slice A3 ms.length c3))
            change Sl (put6 w7 w.heap.size (.int .i64 n0) (.int .i64 n1) (.int .i64 n2) (.int .i64 n3) (.slice A5 xs.length c5) (.slice A3 ms.length c3)) _ _ _ _ _ at hmf
            change bodyPost _ _ _ _ _ (put6 w7 w.heap.size (.int .i64 n0) (.int .i64 n1) (.int .i64 n2) (.int .i64 n3) (.slice A5 xs.length c5) (.slice A3 ms.length c3))
            change Box (put6 w7 w.heap.size (.int .i64 n0) (.int .i64 n1) (.int .i64 n2) (.int .i64 n3) (.slice A5 xs.length c5) (.slice A3 ms.length c3)) _ _ _ at q
            generalize put6 w7 w.heap.size (.int .i64 n0) (.int .i64 n1) (.int .i64 n2) (.int .i64 n3) (.slice A5 xs.length c5) (.slice A3 ms.length c3) = Wf at *
            obtain ⟨g0, g1, g2, g3, g4, g5⟩ := q.d6
            exact bodyPost_ret (v := .tuple #[.agg #[.int .i64 n0, .int .i64 n1, .int .i64 n2, .int .i64 n3, .slice A5 xs.length c5, .slice A3 ms.length c3], .nilIface]) (by simp [results, Tryz.results113, go_sem, g0, g1, g2, g3, g4, g5]) rfl (RetSU.yes HF.out hc5 (hsf.low (by omega)) (hmf.low (by omega)) hnf)

        · have bz : Box (w4.drew.alloc (.cells #[.int .i64 0, .int .i64 0, .int .i64 0, .int .i64 0, .slice none 0 0, .slice none 0 0] 30)) w4.heap.size 30 #[.int .i64 0, .int .i64 0, .int .i64 0, .int .i64 0, .slice none 0 0, .slice none 0 0] := Box.new w4.drew 30 #[.int .i64 0, .int .i64 0, .int .i64 0, .int .i64 0, .slice none 0 0, .slice none 0 0]
          have hz := (Nx.refl w4).drew.alloc (.cells #[.int .i64 0, .int .i64 0, .int .i64 0, .int .i64 0, .slice none 0 0, .slice none 0 0] 30)
          have HM5 := Lib.hid ((hM4.nx (Nx.refl w4).drew).nx ((Nx.refl w4.drew).alloc (.cells #[.int .i64 0, .int .i64 0, .int .i64 0, .int .i64 0, .slice none 0 0, .slice none 0 0] 30)))
          have zlt := bz.lt
          refine CallStep.mk (by rfl) (fun K hK => ?_)
          go_simp
          refine hK.out _ _ (by exact ⟨(hz.cell (p := ⟨b, off, none⟩) hb).trans k0, (hz.cell (p := ⟨b, off + 1, none⟩) hb).trans k1, (hz.cell (p := ⟨b, off + 2, none⟩) hb).trans k2, (hz.cell (p := ⟨b, off + 3, none⟩) hb).trans k3⟩) ?_
          clear hK K
          try simp only [Act.put, List.setIfInBounds_toArray, List.set_cons_zero, List.set_cons_succ]
          change HP _ _ _ _ _ _ (w4.drew.alloc (.cells #[.int .i64 0, .int .i64 0, .int .i64 0, .int .i64 0, .slice none 0 0, .slice none 0 0] 30))
          generalize (w4.drew.alloc (.cells #[.int .i64 0, .int .i64 0, .int .i64 0, .int .i64 0, .slice none 0 0, .slice none 0 0] 30)) = wz at *
          refine HP.call ?_
          refine CallStep.mk (by rfl) (fun K hK => ?_)
          go_simp
          refine (copyListI_c (dropA (some ⟨b, off, none⟩) c) (c - 4) _ xs _ (HRow.out _ hz) hz.size (by have := HLen.out; omega)).mono ?_
          rintro e w5 ⟨A5, c5, rfl, hc5, hS5, hnx5⟩
          go_wp2_with fail
          refine hK.out _ _ (by exact ⟨((hz.trans hnx5).cell (p := ⟨b, off, none⟩) hb).trans k0, ((hz.trans hnx5).cell (p := ⟨b, off + 1, none⟩) hb).trans k1, ((hz.trans hnx5).cell (p := ⟨b, off + 2, none⟩) hb).trans k2, ((hz.trans hnx5).cell (p := ⟨b, off + 3, none⟩) hb).trans k3⟩) ?_
          clear hK K
          try simp only [Act.put, List.setIfInBounds_toArray, List.set_cons_zero, List.set_cons_succ]
          repeat (first | (refine HP.take (v := ?_) (by rfl) ?_ ?_; rotate_left; (· (intro w hSw; (try dsimp only at hSw); go_simp; try with_reducible rfl)); (try simp only [Act.put, List.setIfInBounds_toArray, List.set_cons_zero, List.set_cons_succ])) | (refine HP.skip (by rfl) ?_; (try simp only [Act.put, List.setIfInBounds_toArray, List.set_cons_zero, List.set_cons_succ])))
          have b5 := bz.nx hnx5
          have hx5 := hz.trans hnx5
          obtain ⟨r0, r1, r2, r3, r4, r5⟩ := b5.d6
          have rf0 := b5.frozen 0
          have rf1 := b5.frozen 1
          have rf2 := b5.frozen 2
          have rf3 := b5.frozen 3
          have rf4 := b5.frozen 4
          have rf5 := b5.frozen 5
          have rlt := b5.lt
          refine HP.call ?_
          refine CallStep.mk (by rfl) (fun K hK => ?_)
          go_simp
          refine hK.out _ _ (by exact ⟨((put6_nx hx5 (Nat.le_refl w4.heap.size) (.int .i64 n0) (.int .i64 n1) (.int .i64 n2) (.int .i64 n3) (.slice A5 xs.length c5) (.slice A3 ms.length c3)).cell (p := ⟨b, off, none⟩) hb).trans k0, ((put6_nx hx5 (Nat.le_refl w4.heap.size) (.int .i64 n0) (.int .i64 n1) (.int .i64 n2) (.int .i64 n3) (.slice A5 xs.length c5) (.slice A3 ms.length c3)).cell (p := ⟨b, off + 1, none⟩) hb).trans k1, ((put6_nx hx5 (Nat.le_refl w4.heap.size) (.int .i64 n0) (.int .i64 n1) (.int .i64 n2) (.int .i64 n3) (.slice A5 xs.length c5) (.slice A3 ms.length c3)).cell (p := ⟨b, off + 2, none⟩) hb).trans k2, ((put6_nx hx5 (Nat.le_refl w4.heap.size) (.int .i64 n0) (.int .i64 n1) (.int .i64 n2) (.int .i64 n3) (.slice A5 xs.length c5) (.slice A3 ms.length c3)).cell (p := ⟨b, off + 3, none⟩) hb).trans k3⟩) ?_
          clear hK K
          try simp only [Act.put, List.setIfInBounds_toArray, List.set_cons_zero, List.set_cons_succ]
          refine HP.done ?_
          clear r0 r1 r2 r3 r4 r5 rf0 rf1 rf2 rf3 rf4 rf5
          have bs := put6_box b5 (.int .i64 n0) (.int .i64 n1) (.int .i64 n2) (.int .i64 n3) (.slice A5 xs.length c5) (.slice A3 ms.length c3)
          have hx6 := put6_nx hx5 (Nat.le_refl w4.heap.size) (.int .i64 n0) (.int .i64 n1) (.int .i64 n2) (.int .i64 n3) (.slice A5 xs.length c5) (.slice A3 ms.length c3)
          have hS6 := (hS5.pt6 zlt (.int .i64 n0) (.int .i64 n1) (.int .i64 n2) (.int .i64 n3) (.slice A5 xs.length c5) (.slice A3 ms.length c3)).low (lo' := w4.heap.size) hz.size
          have hM6 := (HM5.out.nx hnx5).pt6t b5 (by decide) (.int .i64 n0) (.int .i64 n1) (.int .i64 n2) (.int .i64 n3) (.slice A5 xs.length c5) (.slice A3 ms.length c3)
          change Exit.then _ _ _ _ (put6 w5 w4.heap.size (.int .i64 n0) (.int .i64 n1) (.int .i64 n2) (.int .i64 n3) (.slice A5 xs.length c5) (.slice A3 ms.length c3))
          generalize (put6 w5 w4.heap.size (.int .i64 n0) (.int .i64 n1) (.int .i64 n2) (.int .i64 n3) (.slice A5 xs.length c5) (.slice A3 ms.length c3)) = w6 at *
          obtain ⟨gS, hgS⟩ : ∃ g, w4.heap.size = g := ⟨_, rfl⟩
          rw [hgS] at bs ⊢
          have b6 := b4.nx hx6
          have hxw6 := hx4.trans hx6
          have hgl5 : w.heap.size < w4.heap.size := b4.lt
          obtain ⟨y0, y1, y2, y3, y4, y5⟩ := bs.d6
          go_wp2_with fail
          refine (superRight_c n0 n1 n2 n3 A5 A3 c5 c3 _ xs ms _ hS6.row hM6.row (Nat.le_refl _) (by have := HLen.out; omega) hml hc5 HAm.out).mono ?_
          rintro e w7 ⟨rfl, hnx7⟩
          have b7 := b6.nx hnx7
          have bs7 := bs.nx hnx7
          have hx7 := hxw6.trans hnx7
          have hS7 := hS6.nx hnx7
          have hM7 := hM6.nx hnx7
          clear y0 y1 y2 y3 y4 y5
          obtain ⟨y0, y1, y2, y3, y4, y5⟩ := bs7.d6
          cases hf : superB n0 n1 n2 n3 xs ms with
          | false =>
            have HF := Lib.hid (HU.out.trans (supOf_no (by rw [Hn0.out, Hn1.out, Hn2.out, Hn3.out, Hxs.out]; exact hf)))
            clear hf
            obtain ⟨u0, u1, u2, u3, u4, u5⟩ := b7.d6
            have f0 := b7.frozen 0
            have f1 := b7.frozen 1
            have f2 := b7.frozen 2
            have f3 := b7.frozen 3
            have f4 := b7.frozen 4
            have f5 := b7.frozen 5
            have hlt9 := b7.lt
            go_wp2_with fail
            refine wp_region_lex [false, false, true, false] (fun w' => w'.cell? ⟨0, 0, none⟩ = some (.iface 304 (.pointer (some a0)))) (by kernel_rfl) (by kernel_rfl) rfl (by kernel_rfl) (fun _ _ d _ _ h => by cases d <;> exact h) (by exact ((hx7.drew).cell (p := ⟨0, 0, none⟩) hg0).trans e0) ?_
            repeat (first | (refine HL.take (v := ?_) (by rfl) ?_ ?_; rotate_left; (· (intro w hSw; (try dsimp only at hSw); go_simp; try with_reducible rfl)); (try simp only [Act.put, List.setIfInBounds_toArray, List.set_cons_zero, List.set_cons_succ])) | (refine HL.skip (by rfl) ?_; (try simp only [Act.put, List.setIfInBounds_toArray, List.set_cons_zero, List.set_cons_succ])))
            refine HL.call (by rfl) (fun K hK => ?_)
            go_simp
            refine hK.out _ _ (by exact ((put6_nx hx7 (Nat.le_refl w.heap.size) (.int .i64 0) (.int .i64 0) (.int .i64 0) (.int .i64 0) (.slice none 0 0) (.slice none 0 0)).drew.cell (p := ⟨0, 0, none⟩) hg0).trans e0) ?_
            clear hK K
            try simp only [Act.put, List.setIfInBounds_toArray, List.set_cons_zero, List.set_cons_succ]
            repeat (first | (refine HL.take (v := ?_) (by rfl) ?_ ?_; rotate_left; (· (intro w hSw; (try dsimp only at hSw); go_simp; try with_reducible rfl)); (try simp only [Act.put, List.setIfInBounds_toArray, List.set_cons_zero, List.set_cons_succ])) | (refine HL.skip (by rfl) ?_; (try simp only [Act.put, List.setIfInBounds_toArray, List.set_cons_zero, List.set_cons_succ])))
            refine HL.done ?_
            clear u0 u1 u2 u3 u4 u5 f0 f1 f2 f3 f4 f5
            go_wp2
            have q := (put6_box b7 (.int .i64 0) (.int .i64 0) (.int .i64 0) (.int .i64 0) (.slice none 0 0) (.slice none 0 0)).drew
            have hnf := (put6_nx hx7 (Nat.le_refl w.heap.size) (.int .i64 0) (.int .i64 0) (.int .i64 0) (.int .i64 0) (.slice none 0 0) (.slice none 0 0)).drew
            change bodyPost _ _ _ _ _ (World.drew (put6 w7 w.heap.size (.int .i64 0) (.int .i64 0) (.int .i64 0) (.int .i64 0) (.slice none 0 0) (.slice none 0 0)))
            change Box (World.drew (put6 w7 w.heap.size (.int .i64 0) (.int .i64 0) (.int .i64 0) (.int .i64 0) (.slice none 0 0) (.slice none 0 0))) _ _ _ at q
            generalize World.drew (put6 w7 w.heap.size (.int .i64 0) (.int .i64 0) (.int .i64 0) (.int .i64 0) (.slice none 0 0) (.slice none 0 0)) = Wf at *
            obtain ⟨g0, g1, g2, g3, g4, g5⟩ := q.d6
            exact bodyPost_ret (v := .tuple #[.agg #[.int .i64 0, .int .i64 0, .int .i64 0, .int .i64 0, .slice none 0 0, .slice none 0 0], .iface 304 (.pointer (some a0))]) (by simp [results, Tryz.results113, go_sem, g0, g1, g2, g3, g4, g5]) rfl (RetSU.no HF.out hnf)
          | true =>
            have HF := Lib.hid (HU.out.trans (supOf_yes (by rw [Hn0.out, Hn1.out, Hn2.out, Hn3.out, Hxs.out]; exact hf)))
            rw [Hn0.out, Hn1.out, Hn2.out, Hn3.out, Hxs.out] at HF
            clear hf
            have hgl : w.heap.size < w4.heap.size := b4.lt
            obtain ⟨u0, u1, u2, u3, u4, u5⟩ := b7.d6
            have f0 := b7.frozen 0
            have f1 := b7.frozen 1
            have f2 := b7.frozen 2
            have f3 := b7.frozen 3
            have f4 := b7.frozen 4
            have f5 := b7.frozen 5
            go_wp2
            have q := (put6_box b7 (.int .i64 n0) (.int .i64 n1) (.int .i64 n2) (.int .i64 n3) (.slice A5 xs.length c5) (.slice A3 ms.length c3))
            have hnf := (put6_nx hx7 (Nat.le_refl w.heap.size) (.int .i64 n0) (.int .i64 n1) (.int .i64 n2) (.int .i64 n3) (.slice A5 xs.length c5) (.slice A3 ms.length c3))
            have hsf := (hS7.pt6 hgl (.int .i64 n0) (.int .i64 n1) (.int .i64 n2) (.int .i64 n3) (.slice A5 xs.length c5) (.slice A3 ms.length c3))
            change Sl (put6 w7 w.heap.size (.int .i64 n0) (.int .i64 n1) (.int .i64 n2) (.int .i64 n3) (.slice A5 xs.length c5) (.slice A3 ms.length c3)) _ _ _ _ _ at hsf
            have hmf := (hM7.pt6 hlt3 (.int .i64 n0) (.int .i64 n1) (.int .i64 n2) (.int .i64 n3) (.slice A5 xs.length c5) (.slice A3 ms.length c3))
            change Sl (put6 w7 w.heap.size (.int .i64 n0) (.int .i64 n1) (.int .i64 n2) (.int .i64 n3) (.slice A5 xs.length c5) (.slice A3 ms.length c3)) _ _ _ _ _ at hmf
            change bodyPost _ _ _ _ _ (put6 w7 w.heap.size (.int .i64 n0) (.int .i64 n1) (.int .i64 n2) (.int .i64 n3) (.slice A5 xs.length c5) (.slice A3 ms.length c3))
            change Box (put6 w7 w.heap.size (.int .i64 n0) (.int .i64 n1) (.int .i64 n2) (.int .i64 n3) (.slice A5 xs.length c5) (.slice A3 ms.length c3)) _ _ _ at q
            generalize put6 w7 w.heap.size (.int .i64 n0) (.int .i64 n1) (.int .i64 n2) (.int .i64 n3) (.slice A5 xs.length c5) (.slice A3 ms.length c3) = Wf at *
            obtain ⟨g0, g1, g2, g3, g4, g5⟩ := q.d6
            exact bodyPost_ret (v := .tuple #[.agg #[.int .i64 n0, .int .i64 n1, .int .i64 n2, .int .i64 n3, .slice A5 xs.length c5, .slice A3 ms.length c3], .nilIface]) (by simp [results, Tryz.results113, go_sem, g0, g1, g2, g3, g4, g5]) rfl (RetSU.yes HF.out hc5 (hsf.low (by omega)) (hmf.low (by omega)) hnf)

end Go.Proofs.YtehahodomfbpjaaGreatDoor
/- Contracts of the model's l00Number and l04Number. Conditions: texts of at most 65536 bytes. -/
namespace Go.Proofs.YtehahodomfbpjaaGreatDoor
set_option linter.unusedVariables false
set_option maxRecDepth 100000
open Go.RowKit

end Go.Proofs.YtehahodomfbpjaaGreatDoor
/- Append of a whole list of ints onto an empty row at one operation of a drawn region; what rows are behind the stores into a block of six cells. Conditions: at most 1048576 elements. -/
namespace Go.Proofs.YtehahodomfbpjaaGreatDoor
set_option linter.unusedVariables false
set_option maxRecDepth 100000
open Go.RowKit

theorem RowM.pt6t {u : World} {B g : Nat} {v : Value} {ms : List Mrk} {t' : TypeId} {a b c d x y : Value} (h : RowM u B v ms) (hb : Box u g t' #[a, b, c, d, x, y]) (ht : t' ≠ 199) (v0 v1 v2 v3 v4 v5 : Value) : RowM (put6 u g v0 v1 v2 v3 v4 v5) B v ms :=
  (((((h.far (p := ⟨g, 0, none⟩) hb ht v0).far (p := ⟨g, 1, none⟩) (hb.set 0 v0) ht v1).far (p := ⟨g, 2, none⟩) ((hb.set 0 v0).set 1 v1) ht v2).far (p := ⟨g, 3, none⟩) (((hb.set 0 v0).set 1 v1).set 2 v2) ht v3).far (p := ⟨g, 4, none⟩) ((((hb.set 0 v0).set 1 v1).set 2 v2).set 3 v3) ht v4).far (p := ⟨g, 5, none⟩) (((((hb.set 0 v0).set 1 v1).set 2 v2).set 3 v3).set 4 v4) ht v5
end Go.Proofs.YtehahodomfbpjaaGreatDoor
/- Contract of the model's l04Read. Conditions: texts of at most 65536 bytes. -/
namespace Go.Proofs.YtehahodomfbpjaaGreatDoor
set_option linter.unusedVariables false
set_option maxRecDepth 100000
open Go.RowKit

end Go.Proofs.YtehahodomfbpjaaGreatDoor
/- Contracts of ReadFrame, as the model and as the program have it: both answer the same frame and code. Conditions: texts of at most 1048576 bytes; the package's errors are known. -/
namespace Go.Proofs.YtehahodomfbpjaaGreatDoor
set_option linter.unusedVariables false
set_option maxRecDepth 100000
open Go.RowKit

end Go.Proofs.YtehahodomfbpjaaGreatDoor
/- Contracts of ReadFrame, as the model and as the program have it: both answer the same frame and code. Conditions: texts of at most 1048576 bytes; the package's errors are known. -/
namespace Go.Proofs.YtehahodomfbpjaaGreatDoor
set_option linter.unusedVariables false
set_option maxRecDepth 100000
open Go.RowKit

end Go.Proofs.YtehahodomfbpjaaGreatDoor
/- Contracts of the program's ReadFrame, and the walk of the law FnExactReadFrame. Conditions: the package's errors are known. -/
namespace Go.Proofs.YtehahodomfbpjaaGreatDoor
set_option linter.unusedVariables false
set_option maxRecDepth 100000
open Go.RowKit

end Go.Proofs.YtehahodomfbpjaaGreatDoor
