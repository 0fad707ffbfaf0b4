/-
  Texts of the proof, put together in their order: Sgx, Pln, Sgo.
  Conditions: those of each.
-/
import Derived.Test.YtehahodomfbpjaaDoorMc5
import Derived.Deep.AppendLies
/- Contracts of SegText, as the model and as the program have it: both answer the same text and code. Conditions: the segment can be read, and has at most 1048576 changes. -/
namespace Go.Proofs.YtehahodomfbpjaaDoor
set_option linter.unusedVariables false
set_option maxRecDepth 100000
open Go.RowKit

/-- The numbers of a segment's text. -/
def chN (c : Chg) : List Nat := [c.1.toNat, c.2.1.toNat, c.2.2.toNat]
def segN (f t m : Int) (cs : List Chg) : List Nat := [f.toNat, t.toNat, m.toNat] ++ cs.flatMap chN
def chV (c : Chg) : List Value := [.int .i64 c.1, .int .i64 c.2.1, .int .i64 c.2.2]
def segV (f t m : Int) (cs : List Chg) : List Value := [.int .i64 f, .int .i64 t, .int .i64 m] ++ cs.flatMap chV
theorem flat_len {α : Type} (g : Chg → List α) (hg : ∀ c, (g c).length = 3) (cs : List Chg) : (cs.flatMap g).length = 3 * cs.length := by
  induction cs with
  | nil => rfl
  | cons a l ih => simp [hg, ih]; omega
theorem segN_len (f t m : Int) (cs : List Chg) : (segN f t m cs).length = 3 + 3 * cs.length := by
  unfold segN; rw [List.length_append, flat_len chN (fun _ => rfl)]; simp
theorem segV_succ (f t m : Int) (cs : List Chg) (k : Nat) (hk : k < cs.length) {x y z : Int} (h : cs.getD k chZ = (x, y, z)) :
    segV f t m (cs.take (k + 1)) = segV f t m (cs.take k) ++ [.int .i64 x, .int .i64 y, .int .i64 z] := by
  unfold segV
  have e : cs[k] = (x, y, z) := by rw [← h, List.getD_eq_getElem?_getD, List.getElem?_eq_getElem hk]; rfl
  rw [List.take_succ_eq_append_getElem hk, List.flatMap_append, List.append_assoc, e]; simp [chV]
theorem mem_chB {cs : List Chg} (h : chsB cs = true) {c : Chg} (hc : c ∈ cs) : chB c = true := by
  obtain ⟨k, hk, rfl⟩ := List.mem_iff_getElem.1 hc
  have := chsB_to h k hk
  unfold okCh at this
  simp only [Bool.and_eq_true] at this
  have h1 := this.1
  rw [List.getD_eq_getElem?_getD, List.getElem?_eq_getElem hk] at h1
  exact h1
theorem chB_yes {c : Chg} (h : chB c = true) : (0 ≤ c.1 ∧ c.1 ≤ 7) ∧ (0 ≤ c.2.1 ∧ c.2.1 ≤ 999999) ∧ (0 ≤ c.2.2 ∧ c.2.2 ≤ 999999) := by
  unfold chB at h
  simp only [Bool.and_eq_true] at h
  exact ⟨inB_yes h.1.1, inB_yes h.1.2, inB_yes h.2⟩
theorem segB_yes {f t m : Int} {cs : List Chg} (h : segB f t m cs = true) : (0 ≤ f ∧ f ≤ 999999) ∧ (0 ≤ t ∧ t ≤ 999999) ∧ f < t ∧ (0 ≤ m ∧ m ≤ 999999) ∧ chsB cs = true := by
  unfold segB at h
  simp only [Bool.and_eq_true, decide_eq_true_eq] at h
  exact ⟨inB_yes h.1.1.1.1, inB_yes h.1.1.1.2, h.1.1.2, inB_yes h.1.2, h.2⟩
theorem segV_map {f t m : Int} {cs : List Chg} (h : segB f t m cs = true) : segV f t m cs = (segN f t m cs).map vI := by
  obtain ⟨⟨h1, _⟩, ⟨h2, _⟩, _, ⟨h3, _⟩, h4⟩ := segB_yes h
  have key : cs.flatMap chV = (cs.flatMap chN).map vI := by
    rw [List.map_flatMap]
    have e : ∀ c ∈ cs, chV c = (chN c).map vI := fun c hc => by
      obtain ⟨⟨a1, _⟩, ⟨a2, _⟩, ⟨a3, _⟩⟩ := chB_yes (mem_chB h4 hc)
      simp only [chV, chN, List.map_cons, List.map_nil, vI_toNat a1, vI_toNat a2, vI_toNat a3]
    clear h4 h
    induction cs with
    | nil => rfl
    | cons a l ih =>
      rw [List.flatMap_cons, List.flatMap_cons, e a (by simp), ih (fun c hc => e c (by simp [hc]))]
  unfold segV segN
  rw [key, List.map_append]
  simp only [List.map_cons, List.map_nil, vI_toNat h1, vI_toNat h2, vI_toNat h3]
theorem segN_all {f t m : Int} {cs : List Chg} (h : segB f t m cs = true) : All6 (segN f t m cs) := by
  obtain ⟨⟨h1, k1⟩, ⟨h2, k2⟩, _, ⟨h3, k3⟩, h4⟩ := segB_yes h
  have key : ∀ n ∈ segN f t m cs, n ≤ 999999 := by
    intro n hn
    unfold segN at hn
    rw [List.mem_append] at hn
    rcases hn with hn | hn
    · simp only [List.mem_cons, List.not_mem_nil, or_false] at hn
      omega
    · obtain ⟨c, hc, hn⟩ := List.mem_flatMap.1 hn
      obtain ⟨⟨a1, b1⟩, ⟨a2, b2⟩, ⟨a3, b3⟩⟩ := chB_yes (mem_chB h4 hc)
      simp only [chN, List.mem_cons, List.not_mem_nil, or_false] at hn
      omega
  intro k hk
  rw [List.getD_eq_getElem?_getD, List.getElem?_eq_getElem hk]
  exact key _ (List.getElem_mem hk)
theorem Own.new3 (w : World) (t : TypeId) (a b c : Value) : Own (w.alloc (.cells #[a, b, c] t)) w.heap.size t 3 (fun i => #[a, b, c].getD i undef) :=
  ⟨_, heap_alloc_new w _, by simp, fun i hi => by
    match i, hi with
    | 0, _ => rfl
    | 1, _ => rfl
    | 2, _ => rfl⟩
theorem owns_new3 (w : World) (t : TypeId) (a b c : Value) {B : Nat} (hB : B ≤ w.heap.size) : (w.alloc (.cells #[a, b, c] t)).ownsRow B t 1 (.slice (some ⟨w.heap.size, 0, none⟩) 3 3) 3 [a, b, c] :=
  ⟨rfl, .inr ⟨_, 3, #[a, b, c], rfl, hB, heap_alloc_new w _, by omega, by unfold maxLen; omega, rfl, rfl⟩⟩
def segS (f t m : Int) (cs : List Chg) : ByteArray := if segB f t m cs then sealS (numsS (segN f t m cs)) else ⟨#[]⟩

set_option maxRecDepth 100000 in
set_option maxHeartbeats 4000000 in
theorem numbers_c (f t m : Int) (A : Option Addr) (c B : Nat) (cs : List Chg) (w : World) (h : Chs w B A cs) (hB : B ≤ w.heap.size) (hn : cs.length ≤ 8) (hok : segB f t m cs = true) :
    Calls Tryd.prog 72 #[.agg #[.int .i64 f, .int .i64 t, .int .i64 m, .slice A cs.length c]] w fun e w' => ∃ A' c', e = .returned (.slice A' (segN f t m cs).length c') ∧ Row w' w'.heap.size A' (segN f t m cs).length (intAt (segN f t m cs)) ∧ Nx w w' := by
  obtain ⟨i0, hi0, hz0, hz1, hz2⟩ := info_parts info_int
  have HV := Lib.hid (segV_map hok)
  clear hok
  go_enter Tryd.func72, Tryd.ntmps72
  go_wp2_with fail
  have b0 := Box.new w 38 #[.int .i64 f, .int .i64 t, .int .i64 m, .slice A cs.length c]
  have hx0 := (Nx.refl w).alloc (.cells #[.int .i64 f, .int .i64 t, .int .i64 m, .slice A cs.length c] 38)
  have hsz : (w.alloc (.cells #[.int .i64 f, .int .i64 t, .int .i64 m, .slice A cs.length c] 38)).heap.size = w.heap.size + 1 := by simp
  have hw0 := owns_new3 (w.alloc (.cells #[.int .i64 f, .int .i64 t, .int .i64 m, .slice A cs.length c] 38)) 3 (.int .i64 f) (.int .i64 t) (.int .i64 m) (Nat.le_refl _)
  have hn0 := (Nx.refl (w.alloc (.cells #[.int .i64 f, .int .i64 t, .int .i64 m, .slice A cs.length c] 38))).alloc (.cells #[.int .i64 f, .int .i64 t, .int .i64 m] 3)
  generalize w.alloc (.cells #[.int .i64 f, .int .i64 t, .int .i64 m, .slice A cs.length c] 38) = W at *
  rw [hsz] at hw0
  have Hsz := Lib.hid hsz
  clear hsz
  go_loopw [3, 16] (fun s i wr => ∃ (k : Nat) (v : Value), k ≤ cs.length ∧ i = .int .i64 k ∧ v = s ∧ wr.ownsRow W.heap.size 3 1 v (3 + 3 * k) (segV f t m (cs.take k)) ∧ Nx W wr) (fun _ i _ => cs.length - (intOf i).toNat)
  case atStart => exact ⟨0, _, Nat.zero_le _, rfl, rfl, by rw [Hsz.out]; exact hw0, hn0⟩
  case round =>
    obtain ⟨k, v, hk, rfl, rfl, hw, hnx⟩ := hrel
    clear hw0 hn0
    by_cases hlt : k < cs.length
    · obtain ⟨b, off, rfl, hb, k0, k1, k2⟩ := (h.below (hx0.trans hnx) hB).at_ hlt
      obtain ⟨⟨q0, q1, q2⟩, Hq⟩ : ∃ q, Hid (cs.getD k chZ = q) := ⟨_, rfl⟩
      rw [Hq.out] at k0 k1 k2
      have hw1 := (hw.alloc (.cells #[.int .i64 q0, .int .i64 q1, .int .i64 q2] 85)).alloc (.cells #[.int .i64 q0, .int .i64 q1, .int .i64 q2] 3)
      have ho1 := Own.new3 (wr.alloc (.cells #[.int .i64 q0, .int .i64 q1, .int .i64 q2] 85)) 3 (.int .i64 q0) (.int .i64 q1) (.int .i64 q2)
      have hx1 := (hnx.alloc (.cells #[.int .i64 q0, .int .i64 q1, .int .i64 q2] 85)).alloc (.cells #[.int .i64 q0, .int .i64 q1, .int .i64 q2] 3)
      simp only [World.size_alloc] at ho1
      have HN : Hid (∀ j u, [Value.int .i64 q0, .int .i64 q1, .int .i64 q2][j]? = some u → ((wr.alloc (.cells #[.int .i64 q0, .int .i64 q1, .int .i64 q2] 85)).alloc (.cells #[.int .i64 q0, .int .i64 q1, .int .i64 q2] 3)).cell? ((Addr.mk (wr.heap.size + 1) 0 none).add j) = some u) := Lib.hid (fun j u hj => by
        rcases j with _ | _ | _ | j
        · injection hj with hj; subst hj; exact (ho1.cell (i := 0) (by omega))
        · injection hj with hj; subst hj; exact (ho1.cell (i := 1) (by omega))
        · injection hj with hj; subst hj; exact (ho1.cell (i := 2) (by omega))
        · simp at hj)
      have HO : Hid (∀ u ∈ [Value.int .i64 q0, .int .i64 q1, .int .i64 q2], u.oneCell' = true) := Lib.hid (fun u hu => by simp only [List.mem_cons, List.not_mem_nil, or_false] at hu; rcases hu with rfl | rfl | rfl <;> rfl)
      go_wp2_with (at_builtin; refine wpList_append_own _ rfl _ _ 22 rfl W.heap.size 3 i0 _ 1 8 Tryd.underlying22 hi0 hz0 hz1 hz2 rfl (by omega) v (3 + 3 * k) _ rfl hw1 ⟨wr.heap.size + 1, 0, none⟩ 3 3 [.int .i64 q0, .int .i64 q1, .int .i64 q2] rfl rfl HN.out HO.out ?c3 ?c4 ?c5 ?_)
      case c3 => unfold maxLen; omega
      case c4 => omega
      case c5 => have := hx1.size; simp only [World.size_alloc] at this ⊢; omega
      intro v2 w2 hw2 hg2 _
      have hx2 : Nx W w2 := Below.grown hx1 hg2 hx1.size (fun k hk => (hw1.lt k hk).1)
      go_wp2
      go_roundw
      case rel =>
        refine ⟨k + 1, _, by omega, by go_num, rfl, ?_, hx2⟩
        rw [segV_succ f t m cs k hlt Hq.out]
        exact hw2
      case measure => simp [intOf]; omega
    · obtain rfl : k = cs.length := by omega
      rw [List.take_length, HV.out] at hw
      have hl := segN_len f t m cs
      rw [← hl] at hw
      obtain ⟨A', c', rfl, hrow⟩ := owns_row hw (by omega)
      clear hl hw
      go_wp2
      go_ret
      exact ⟨A', c', rfl, hrow, hx0.trans hnx⟩
set_option maxRecDepth 100000 in
set_option maxHeartbeats 4000000 in
theorem l02Text_c (f t m : Int) (A : Option Addr) (c B : Nat) (cs : List Chg) (w : World) (h : Chs w B A cs) (hB : B ≤ w.heap.size) (hn : cs.length ≤ 8) (hok : segB f t m cs = true) :
    Calls Tryd.prog 48 #[.agg #[.int .i64 f, .int .i64 t, .int .i64 m, .slice A cs.length c]] w fun e w' => e = .returned (.string (sealS (numsS (segN f t m cs)))) ∧ Nx w w' := by
  obtain ⟨i0, hi0, hz0, hz1, hz2⟩ := info_parts info_int
  have HV := Lib.hid (segV_map hok)
  have h6 := segN_all hok
  clear hok
  go_enter Tryd.func48, Tryd.ntmps48
  go_wp2_with fail
  have b0 := Box.new w 38 #[.int .i64 f, .int .i64 t, .int .i64 m, .slice A cs.length c]
  have hx0 := (Nx.refl w).alloc (.cells #[.int .i64 f, .int .i64 t, .int .i64 m, .slice A cs.length c] 38)
  have hsz : (w.alloc (.cells #[.int .i64 f, .int .i64 t, .int .i64 m, .slice A cs.length c] 38)).heap.size = w.heap.size + 1 := by simp
  have hw0 := owns_new3 (w.alloc (.cells #[.int .i64 f, .int .i64 t, .int .i64 m, .slice A cs.length c] 38)) 3 (.int .i64 f) (.int .i64 t) (.int .i64 m) (Nat.le_refl _)
  have hn0 := (Nx.refl (w.alloc (.cells #[.int .i64 f, .int .i64 t, .int .i64 m, .slice A cs.length c] 38))).alloc (.cells #[.int .i64 f, .int .i64 t, .int .i64 m] 3)
  generalize w.alloc (.cells #[.int .i64 f, .int .i64 t, .int .i64 m, .slice A cs.length c] 38) = W at *
  rw [hsz] at hw0
  have Hsz := Lib.hid hsz
  clear hsz
  go_loopw [3, 4] (fun s i wr => ∃ (k : Nat) (v : Value), k ≤ cs.length ∧ i = .int .i64 k ∧ v = s ∧ wr.ownsRow W.heap.size 3 1 v (3 + 3 * k) (segV f t m (cs.take k)) ∧ Nx W wr) (fun _ i _ => cs.length - (intOf i).toNat)
  case atStart => exact ⟨0, _, Nat.zero_le _, rfl, rfl, by rw [Hsz.out]; exact hw0, hn0⟩
  case round =>
    obtain ⟨k, v, hk, rfl, rfl, hw, hnx⟩ := hrel
    obtain ⟨_, _, _, c3⟩ := (b0.nx hnx).d4
    clear hw0 hn0
    by_cases hlt : k < cs.length
    · obtain ⟨b, off, rfl, hb, k0, k1, k2⟩ := (h.below (hx0.trans hnx) hB).at_ hlt
      obtain ⟨⟨q0, q1, q2⟩, Hq⟩ : ∃ q, Hid (cs.getD k chZ = q) := ⟨_, rfl⟩
      rw [Hq.out] at k0 k1 k2
      have hbw : b < W.heap.size := by have := hx0.size; omega
      have hbv : w.heap.size < W.heap.size := b0.lt
      go_wp2_with fail
      refine wp_region_lex [false, false, false, false, false, false, false, false, false, false, false, false, false, false, false, false, false, false, false, true, true, false] (fun w' => w'.cell? ⟨w.heap.size, 3, none⟩ = some (.slice (some ⟨b, off, none⟩) cs.length c) ∧ w'.cell? ⟨b, off + k * 3, none⟩ = some (.int .i64 q0) ∧ w'.cell? ⟨b, off + k * 3 + 1, none⟩ = some (.int .i64 q1) ∧ w'.cell? ⟨b, off + k * 3 + 2, none⟩ = some (.int .i64 q2)) (by kernel_rfl) (by kernel_rfl) rfl (by kernel_rfl) (fun _ _ d _ _ h => by cases d <;> exact h) (by exact ⟨c3, k0, k1, k2⟩) ?_
      repeat (first | (refine HL.take (v := ?_) (by rfl) ?_ ?_; rotate_left; (· (intro w hSw; (try dsimp only at hSw); go_simp; try with_reducible rfl)); (try simp only [Act.put, List.setIfInBounds_toArray, List.set_cons_zero, List.set_cons_succ])) | (refine HL.skip (by rfl) ?_; (try simp only [Act.put, List.setIfInBounds_toArray, List.set_cons_zero, List.set_cons_succ])))
      refine HL.call (by rfl) (fun K hK => ?_)
      go_simp
      have hn1 : Nx wr.drew (wr.drew.alloc (.cells #[.int .i64 q0, .int .i64 q1, .int .i64 q2] 3)) := (Nx.refl _).alloc _
      change K _ (wr.drew.alloc _)
      have ho1 := Own.new3 wr.drew 3 (.int .i64 q0) (.int .i64 q1) (.int .i64 q2)
      have hw1 := (hw.drew).alloc (.cells #[.int .i64 q0, .int .i64 q1, .int .i64 q2] 3)
      have hx1 := hnx.drew.trans hn1
      refine hK.out _ _ (by exact ⟨(hx1.of_two hnx ⟨w.heap.size, 3, none⟩ hbv).trans c3, (hx1.of_two hnx ⟨b, off + k * 3, none⟩ hbw).trans k0, (hx1.of_two hnx ⟨b, off + k * 3 + 1, none⟩ hbw).trans k1, (hx1.of_two hnx ⟨b, off + k * 3 + 2, none⟩ hbw).trans k2⟩) ?_
      generalize wr.drew.alloc (.cells #[.int .i64 q0, .int .i64 q1, .int .i64 q2] 3) = wz at *
      clear hK K
      try simp only [Act.put, List.setIfInBounds_toArray, List.set_cons_zero, List.set_cons_succ]
      refine HL.call (by rfl) (fun K hK => ?_)
      refine wp_append_own wz _ _ 22 rfl W.heap.size 3 i0 _ 1 8 Tryd.underlying22 hi0 hz0 hz1 hz2 rfl (by omega) v (3 + 3 * k) _ rfl hw1 ⟨wr.heap.size, 0, none⟩ 3 3 [.int .i64 q0, .int .i64 q1, .int .i64 q2] rfl rfl (fun j u hj => ?_) (fun u hu => ?_) (by unfold maxLen; omega) (by omega) (by have := hx1.size; omega) ?_
      · rcases j with _ | _ | _ | j
        · injection hj with hj; subst hj; exact (ho1.cell (i := 0) (by omega))
        · injection hj with hj; subst hj; exact (ho1.cell (i := 1) (by omega))
        · injection hj with hj; subst hj; exact (ho1.cell (i := 2) (by omega))
        · simp at hj
      · simp only [List.mem_cons, List.not_mem_nil, or_false] at hu; rcases hu with rfl | rfl | rfl <;> rfl
      intro v2 w2 hw2 hg2 _
      have hx2 : Nx W w2 := Below.grown hx1 hg2 hx1.size (fun k hk => (hw1.lt k hk).1)
      refine hK.out _ _ (by exact ⟨(hx2.of_two hnx ⟨w.heap.size, 3, none⟩ hbv).trans c3, (hx2.of_two hnx ⟨b, off + k * 3, none⟩ hbw).trans k0, (hx2.of_two hnx ⟨b, off + k * 3 + 1, none⟩ hbw).trans k1, (hx2.of_two hnx ⟨b, off + k * 3 + 2, none⟩ hbw).trans k2⟩) ?_
      clear hK K
      try simp only [Act.put, List.setIfInBounds_toArray, List.set_cons_zero, List.set_cons_succ]
      repeat (first | (refine HL.take (v := ?_) (by rfl) ?_ ?_; rotate_left; (· (intro w hSw; (try dsimp only at hSw); go_simp; try with_reducible rfl)); (try simp only [Act.put, List.setIfInBounds_toArray, List.set_cons_zero, List.set_cons_succ])) | (refine HL.skip (by rfl) ?_; (try simp only [Act.put, List.setIfInBounds_toArray, List.set_cons_zero, List.set_cons_succ])))
      refine HL.done ?_
      go_wp2
      go_roundw
      case rel =>
        refine ⟨k + 1, _, by omega, by go_num, rfl, ?_, hx2⟩
        rw [segV_succ f t m cs k hlt Hq.out]
        exact hw2
      case measure => simp [intOf]; omega
    · obtain rfl : k = cs.length := by omega
      rw [List.take_length, HV.out] at hw
      have hl := segN_len f t m cs
      rw [← hl] at hw
      obtain ⟨A', c', rfl, hrow⟩ := owns_row hw (by omega)
      have Hl := Lib.hid hl
      clear hl hw
      go_wp2_with fail
      refine (l02Join_c A' c' _ (segN f t m cs) _ hrow (Nat.le_refl _) h6 (by have := Hl.out; omega)).mono ?_
      rintro e w1 ⟨rfl, hnx1⟩
      go_wp2_with fail
      refine (l02Seal_c (numsS (segN f t m cs)) _ (by rw [numsS_size]; have := Hl.out; omega)).mono ?_
      rintro e w2 ⟨rfl, hnx2⟩
      go_wp2
      go_ret
      exact ⟨rfl, ((hx0.trans hnx).trans hnx1).trans hnx2⟩
set_option maxHeartbeats 2000000 in
theorem specSegText_c (f t m : Int) (A : Option Addr) (c B : Nat) (cs : List Chg) (w : World) (h : Chs w B A cs) (hB : B ≤ w.heap.size) (hn : cs.length ≤ 1048576) :
    Calls Tryd.prog 16 #[.agg #[.int .i64 f, .int .i64 t, .int .i64 m, .slice A cs.length c]] w fun e w' => e = .returned (.tuple #[.string (segS f t m cs), .int .i64 (codeB (segB f t m cs) 1)]) ∧ Nx w w' := by
  cases hf : segB f t m cs with
  | false =>
    have HF := Lib.hid hf
    have HS := Lib.hid (show (⟨#[]⟩ : ByteArray) = segS f t m cs by unfold segS; rw [hf]; rfl)
    clear hf
    go_enter Tryd.func16, Tryd.ntmps16
    go_wp2_with fail
    refine (specSegOK_c f t m A c B cs _ (h.below ((Nx.refl w).alloc _) hB) (Nat.le_trans hB (by simp)) hn).mono ?_
    rintro e w1 ⟨rfl, hnx1⟩
    rw [HF.out]
    go_wp2
    go_ret2
    exact ⟨ret_tup HS.out rfl, ((Nx.refl w).alloc _).trans hnx1⟩
  | true =>
    have HF := Lib.hid hf
    have hl8 := chsB_len (segB_yes hf).2.2.2.2
    have HS := Lib.hid (show sealS (numsS (segN f t m cs)) = segS f t m cs by unfold segS; rw [hf]; rfl)
    clear hf
    go_enter Tryd.func16, Tryd.ntmps16
    go_wp2_with fail
    have b0 := Box.new w 38 #[.int .i64 f, .int .i64 t, .int .i64 m, .slice A cs.length c]
    have hx0 := (Nx.refl w).alloc (.cells #[.int .i64 f, .int .i64 t, .int .i64 m, .slice A cs.length c] 38)
    generalize w.alloc (.cells #[.int .i64 f, .int .i64 t, .int .i64 m, .slice A cs.length c] 38) = W at *
    refine (specSegOK_c f t m A c B cs _ (h.below hx0 hB) (Nat.le_trans hB hx0.size) hn).mono ?_
    rintro e w1 ⟨rfl, hnx1⟩
    rw [HF.out]
    obtain ⟨c0, c1, c2, c3⟩ := (b0.nx hnx1).d4
    have hx1 := hx0.trans hnx1
    go_wp2_with fail
    refine (l02Text_c f t m A c B cs _ (h.below hx1 hB) (Nat.le_trans hB hx1.size) hl8 HF.out).mono ?_
    rintro e w2 ⟨rfl, hnx2⟩
    have hxz := hx1.trans hnx2
    go_wp2
    go_ret2
    exact ⟨ret_tup HS.out rfl, hxz⟩
set_option maxHeartbeats 2000000 in
/-- The text of a right segment, as the program makes it. -/
theorem segTextM_c (f t m : Int) (A : Option Addr) (c B : Nat) (cs : List Chg) (w : World) (h : Chs w B A cs) (hB : B ≤ w.heap.size) (hf : segB f t m cs = true) :
    Calls Tryd.prog 46 #[.agg #[.int .i64 f, .int .i64 t, .int .i64 m, .slice A cs.length c]] w fun e w' => e = .returned (.string (sealS (numsS (segN f t m cs)))) ∧ Nx w w' := by
  have HF := Lib.hid hf
  have hl8 := chsB_len (segB_yes hf).2.2.2.2
  clear hf
  have b0 := Box.new w 38 #[.int .i64 f, .int .i64 t, .int .i64 m, .slice A cs.length c]
  have hx0 := (Nx.refl w).alloc (.cells #[.int .i64 f, .int .i64 t, .int .i64 m, .slice A cs.length c] 38)
  go_enter Tryd.func46, Tryd.ntmps46
  go_wp2_with fail
  generalize w.alloc (.cells #[.int .i64 f, .int .i64 t, .int .i64 m, .slice A cs.length c] 38) = W at *
  obtain ⟨c0, c1, c2, c3⟩ := b0.d4
  refine (numbers_c f t m A c B cs _ (h.below hx0 hB) (Nat.le_trans hB hx0.size) hl8 HF.out).mono ?_
  rintro e w2 ⟨A', c', rfl, hrow, hnx2⟩
  have Hl := Lib.hid (segN_len f t m cs)
  go_wp2_with fail
  refine (numbersText_c A' c' _ (segN f t m cs) _ hrow (Nat.le_refl _) (segN_all HF.out) (by have := Hl.out; omega) (by have := Hl.out; omega)).mono ?_
  rintro e w3 ⟨rfl, hnx3⟩
  go_wp2_with fail
  refine (sealed_c (numsS (segN f t m cs)) _ (by rw [numsS_size]; have := Hl.out; omega)).mono ?_
  rintro e w4 ⟨rfl, hnx4⟩
  have hxz := ((hx0.trans hnx2).trans hnx3).trans hnx4
  go_wp2
  go_ret
  exact ⟨rfl, hxz⟩
set_option maxHeartbeats 2000000 in
theorem implSegText_c (f t m : Int) (A : Option Addr) (c B : Nat) (cs : List Chg) (w : World) (h : Chs w B A cs) (hB : B ≤ w.heap.size) (hn : cs.length ≤ 1048576) :
    Calls Tryd.prog 15 #[.agg #[.int .i64 f, .int .i64 t, .int .i64 m, .slice A cs.length c]] w fun e w' => e = .returned (.tuple #[.string (segS f t m cs), .int .i64 (codeB (segB f t m cs) 1)]) ∧ Nx w w' := by
  cases hf : segB f t m cs with
  | false =>
    have HF := Lib.hid hf
    have HS := Lib.hid (show (⟨#[]⟩ : ByteArray) = segS f t m cs by unfold segS; rw [hf]; rfl)
    clear hf
    go_enter Tryd.func15, Tryd.ntmps15
    go_wp2_with fail
    refine (segRight_c f t m A c B cs _ (h.below ((Nx.refl w).alloc _) hB) (Nat.le_trans hB (by simp)) hn).mono ?_
    rintro e w1 ⟨rfl, hnx1⟩
    rw [HF.out]
    go_wp2
    go_ret2
    exact ⟨ret_tup HS.out rfl, ((Nx.refl w).alloc _).trans hnx1⟩
  | true =>
    have HF := Lib.hid hf
    have hl8 := chsB_len (segB_yes hf).2.2.2.2
    have HS := Lib.hid (show sealS (numsS (segN f t m cs)) = segS f t m cs by unfold segS; rw [hf]; rfl)
    clear hf
    go_enter Tryd.func15, Tryd.ntmps15
    go_wp2_with fail
    have b0 := Box.new w 38 #[.int .i64 f, .int .i64 t, .int .i64 m, .slice A cs.length c]
    have hx0 := (Nx.refl w).alloc (.cells #[.int .i64 f, .int .i64 t, .int .i64 m, .slice A cs.length c] 38)
    generalize w.alloc (.cells #[.int .i64 f, .int .i64 t, .int .i64 m, .slice A cs.length c] 38) = W at *
    refine (segRight_c f t m A c B cs _ (h.below hx0 hB) (Nat.le_trans hB hx0.size) hn).mono ?_
    rintro e w1 ⟨rfl, hnx1⟩
    rw [HF.out]
    obtain ⟨c0, c1, c2, c3⟩ := (b0.nx hnx1).d4
    have hx1 := hx0.trans hnx1
    go_wp2_with fail
    refine (segTextM_c f t m A c B cs _ (h.below hx1 hB) (Nat.le_trans hB hx1.size) HF.out).mono ?_
    rintro e w2 ⟨rfl, hnx2⟩
    have hxz := hx1.trans hnx2
    go_wp2
    go_ret2
    exact ⟨ret_tup HS.out rfl, hxz⟩
end Go.Proofs.YtehahodomfbpjaaDoor
/- A region that draws its order, walked by a plan: operations that only read cells that stay as they are (S) are taken in whatever order the plan names; where two may come up, both orders are walked. Conditions: those of each theorem. -/
namespace Go.Proofs.YtehahodomfbpjaaDoor
set_option linter.unusedVariables false
set_option maxRecDepth 100000
open Go.RowKit
/-- A plan: its end; take k; meet k when it alone may come up; where j and k may come up, a plan behind each. -/
inductive Pl where
  | e
  | t (k : Nat) (r : Pl)
  | c (k : Nat) (r : Pl)
  | b (j : Nat) (r1 : Pl) (k : Nat) (r2 : Pl)
  | d (i : Nat) (r0 : Pl) (j : Nat) (r1 : Pl) (k : Nat) (r2 : Pl)
/-- .. with the operations. -/
inductive Ps where
  | e
  | t (o : Oper) (r : Ps)
  | c (o : Oper) (r : Ps)
  | b (oj : Oper) (r1 : Ps) (ok : Oper) (r2 : Ps)
  | d (oi : Oper) (r0 : Ps) (oj : Oper) (r1 : Ps) (ok : Oper) (r2 : Ps)
def noOp : Oper := { dst := none, op := Op.move (Operand.const undef), type := 0, pos := "", after := #[], guard := none }
def psOf (l : List Oper) : Pl → Ps
  | .e => .e
  | .t k r => .t (l.getD k noOp) (psOf l r)
  | .c k r => .c (l.getD k noOp) (psOf l r)
  | .b j r1 k r2 => .b (l.getD j noOp) (psOf l r1) (l.getD k noOp) (psOf l r2)
  | .d i r0 j r1 k r2 => .d (l.getD i noOp) (psOf l r0) (l.getD j noOp) (psOf l r1) (l.getD k noOp) (psOf l r2)
section
variable {P : Program} {ops : Array Oper} {Q : Exit → Act → World → Prop} {S : World → Prop}
def CallStep (P : Program) (ops : Array Oper) (Q : Exit → Act → World → Prop) (S : World → Prop) (o : Oper) (R : Act → World → Prop) (a : Act) (w : World) : Prop :=
  Region.wanted o (yielded ops a.tmps) = true ∧ ∀ K : Act → World → Prop, Hid (∀ a' w', S w' → R a' w' → K a' w') → o.wp P a w K Q
def HP (P : Program) (ops : Array Oper) (Q : Exit → Act → World → Prop) (S : World → Prop) : Ps → Act → World → Prop
  | .e, a, w => Q .normal a w
  | .t o r, a, w => ∃ v, YieldsIf P ops S o v a ∧ HP P ops Q S r (a.put o.dst v) w
  | .c o r, a, w => CallStep P ops Q S o (HP P ops Q S r) a w
  | .b oj r1 ok r2, a, w => CallStep P ops Q S oj (HP P ops Q S r1) a w ∧ CallStep P ops Q S ok (HP P ops Q S r2) a w
  | .d oi r0 oj r1 ok r2, a, w => CallStep P ops Q S oi (HP P ops Q S r0) a w ∧ CallStep P ops Q S oj (HP P ops Q S r1) a w ∧ CallStep P ops Q S ok (HP P ops Q S r2) a w
def steps : Pl → Nat
  | .e => 0
  | .t _ r => steps r + 1
  | .c _ r => steps r + 1
  | .b _ r1 _ _ => steps r1 + 1
  | .d _ r0 _ _ _ _ => steps r0 + 1
/-- What is asked of the region's edges alone. -/
def planB (md : Region.Mode) (ops : Array Oper) : Pl → Array Bool → Bool
  | .e, listed => Region.ready md ops listed == []
  | .t k r, listed => decide (k < ops.size) && (Region.ready md ops listed).contains k && Region.free md ops listed k && planB md ops r (listed.setIfInBounds k true)
  | .c k r, listed => decide (k < ops.size) && (Region.ready md ops listed == [k]) && planB md ops r (listed.setIfInBounds k true)
  | .b j r1 k r2, listed => decide (j < ops.size) && decide (k < ops.size) && (Region.ready md ops listed == [j, k]) && decide (steps r2 = steps r1) && planB md ops r1 (listed.setIfInBounds j true) && planB md ops r2 (listed.setIfInBounds k true)
  | .d i r0 j r1 k r2, listed => decide (i < ops.size) && decide (j < ops.size) && decide (k < ops.size) && (Region.ready md ops listed == [i, j, k]) && decide (steps r1 = steps r0) && decide (steps r2 = steps r0) && planB md ops r0 (listed.setIfInBounds i true) && planB md ops r1 (listed.setIfInBounds j true) && planB md ops r2 (listed.setIfInBounds k true)
theorem HP.take {o : Oper} {r : Ps} {a : Act} {w : World} {v : Value} (hw : Region.wanted o (yielded ops a.tmps) = true) (h : ∀ w, S w → (execOp a.eval o).run P w = .ok (.value v) w)
    (hr : HP P ops Q S r (a.put o.dst v) w) : HP P ops Q S (.t o r) a w := ⟨v, .inl ⟨hw, h⟩, hr⟩
theorem HP.skip {o : Oper} {r : Ps} {a : Act} {w : World} (hw : Region.wanted o (yielded ops a.tmps) = false) (hr : HP P ops Q S r (a.put o.dst undef) w) : HP P ops Q S (.t o r) a w := ⟨undef, .inr ⟨hw, rfl⟩, hr⟩
theorem HP.call {o : Oper} {r : Ps} {a : Act} {w : World} (h : CallStep P ops Q S o (HP P ops Q S r) a w) : HP P ops Q S (.c o r) a w := h
theorem HP.both {oj ok : Oper} {r1 r2 : Ps} {a : Act} {w : World} (h1 : CallStep P ops Q S oj (HP P ops Q S r1) a w) (h2 : CallStep P ops Q S ok (HP P ops Q S r2) a w) : HP P ops Q S (.b oj r1 ok r2) a w := ⟨h1, h2⟩
theorem HP.done {a : Act} {w : World} (h : Q .normal a w) : HP P ops Q S .e a w := h
theorem CallStep.mk {o : Oper} {R : Act → World → Prop} {a : Act} {w : World} (hw : Region.wanted o (yielded ops a.tmps) = true)
    (h : ∀ K : Act → World → Prop, Hid (∀ a' w', S w' → R a' w' → K a' w') → o.wp P a w K Q) : CallStep P ops Q S o R a w := ⟨hw, h⟩
theorem CallStep.op {k : Nat} {o : Oper} {R K : Act → World → Prop} {a : Act} {w : World} (h : CallStep P ops Q S o R a w) (h0 : ops[k]? = some o) (hK : ∀ a' w', S w' → R a' w' → K a' w') : wpOp P ops Q k K a w := by
  unfold wpOp
  simp only [h0, h.1, if_true]
  exact .inl (h.2 _ (Lib.hid hK))
theorem getD_op {l : List Oper} {k : Nat} (h : k < l.toArray.size) : l.toArray[k]? = some (l.getD k noOp) := by
  have h' : k < l.length := by simpa using h
  rw [List.getElem?_toArray, List.getD_eq_getElem?_getD, List.getElem?_eq_getElem h']; rfl
theorem HP.any {md : Region.Mode} {l : List Oper} (hs : Region.noSelect l.toArray = true) (hQ : ∀ c a d v w, Q (.panic c) (Act.put a d v) w → Q (.panic c) a w) :
    ∀ (ks : Pl) (listed : Array Bool) (a : Act) (w : World), planB md l.toArray ks listed = true → S w → HP P l.toArray Q S (psOf l ks) a w → wpAnyH P md l.toArray Q S (steps ks) listed a w
  | .e, listed, a, w, hB, _, h => wpAnyH_done (by simpa [planB] using hB) h _
  | .t k r, listed, a, w, hB, hS, h => by
    simp only [planB, Bool.and_eq_true, decide_eq_true_eq] at hB
    obtain ⟨⟨⟨hk, hr⟩, hf⟩, hB'⟩ := hB
    obtain ⟨v, hy, hK⟩ := h
    exact wpAnyH_take (getD_op hk) hs hf hr (fun c a w => hQ c a _ _ w) hy hS (HP.any hs hQ r _ _ w hB' hS hK)
  | .c k r, listed, a, w, hB, hS, h => by
    simp only [planB, Bool.and_eq_true, decide_eq_true_eq, beq_iff_eq] at hB
    obtain ⟨⟨hk, hr⟩, hB'⟩ := hB
    refine wpAnyH_all hr (by simp) fun i hi => ?_
    obtain rfl : i = k := by simpa using hi
    exact CallStep.op h (getD_op hk) fun a' w' hS' h' => ⟨hS', HP.any hs hQ r _ a' w' hB' hS' h'⟩
  | .b j r1 k r2, listed, a, w, hB, hS, h => by
    simp only [planB, Bool.and_eq_true, decide_eq_true_eq, beq_iff_eq] at hB
    obtain ⟨⟨⟨⟨⟨hj, hk⟩, hr⟩, hst⟩, hB1⟩, hB2⟩ := hB
    refine wpAnyH_all hr (by simp) fun i hi => ?_
    rcases (show i = j ∨ i = k by simpa using hi) with rfl | rfl
    · exact CallStep.op h.1 (getD_op hj) fun a' w' hS' h' => ⟨hS', HP.any hs hQ r1 _ a' w' hB1 hS' h'⟩
    · exact CallStep.op h.2 (getD_op hk) fun a' w' hS' h' => ⟨hS', by have := HP.any hs hQ r2 _ a' w' hB2 hS' h'; rw [hst] at this; exact this⟩
  | .d i r0 j r1 k r2, listed, a, w, hB, hS, h => by
    simp only [planB, Bool.and_eq_true, decide_eq_true_eq, beq_iff_eq] at hB
    obtain ⟨⟨⟨⟨⟨⟨⟨⟨hi, hj⟩, hk⟩, hr⟩, hst1⟩, hst2⟩, hB0⟩, hB1⟩, hB2⟩ := hB
    refine wpAnyH_all hr (by simp) fun x hx => ?_
    rcases (show x = i ∨ x = j ∨ x = k by simpa using hx) with rfl | rfl | rfl
    · exact CallStep.op h.1 (getD_op hi) fun a' w' hS' h' => ⟨hS', HP.any hs hQ r0 _ a' w' hB0 hS' h'⟩
    · exact CallStep.op h.2.1 (getD_op hj) fun a' w' hS' h' => ⟨hS', by have := HP.any hs hQ r1 _ a' w' hB1 hS' h'; rw [hst1] at this; exact this⟩
    · exact CallStep.op h.2.2 (getD_op hk) fun a' w' hS' h' => ⟨hS', by have := HP.any hs hQ r2 _ a' w' hB2 hS' h'; rw [hst2] at this; exact this⟩
/-- The region. -/
theorem wp_region_plan {id : Nat} {a : Act} {w : World} {l : List Oper} (ks : Pl) (S : World → Prop) (hm : P.follows .mixedOrders = true) (hs : Region.noSelect l.toArray = true) (hl : l.length = steps ks)
    (hB : planB .any l.toArray ks (Array.replicate l.toArray.size false) = true) (hQ : ∀ c a d v w, Q (.panic c) (Act.put a d v) w → Q (.panic c) a w) (hS : S w.drew)
    (h : HP P l.toArray Q S (psOf l ks) a w.drew) : (Code.region id l.toArray true).wp P Q a w := by
  refine wp_region_held_drew (S := S) hm hS fun _ => ?_
  have := HP.any (md := .any) hs hQ ks (Array.replicate l.toArray.size false) a w.drew hB hS h
  have e : l.toArray.size = steps ks := by simpa using hl
  rw [e]
  rw [e] at this
  exact this
end
end Go.Proofs.YtehahodomfbpjaaDoor
/- Segments read back from numbers: what they are, and words on lists of changes that grow. Conditions: none. -/
namespace Go.Proofs.YtehahodomfbpjaaDoor
set_option linter.unusedVariables false
set_option maxRecDepth 100000
open Go.RowKit

def chN3 (ns : List Nat) (j : Nat) : Chg := ((ns.getD (3 + 3 * j) 0 : Nat), (ns.getD (3 + 3 * j + 1) 0 : Nat), (ns.getD (3 + 3 * j + 2) 0 : Nat))
def chOf (ns : List Nat) (k : Nat) : List Chg := (List.range k).map (chN3 ns)
theorem chOf_len (ns : List Nat) (k : Nat) : (chOf ns k).length = k := by simp [chOf]
theorem chOf_succ (ns : List Nat) (k : Nat) : chOf ns (k + 1) = chOf ns k ++ [chN3 ns k] := by simp [chOf, List.range_succ]
def chsV (cs : List Chg) : List Value := cs.flatMap chV
theorem chsV_succ (ns : List Nat) (k : Nat) : chsV (chOf ns (k + 1)) = chsV (chOf ns k) ++ chV (chN3 ns k) := by
  unfold chsV; rw [chOf_succ, List.flatMap_append]; simp
theorem chsV_get : ∀ (cs : List Chg) (i : Nat), i < cs.length * 3 → (chsV cs)[i]? = some (chAt cs i)
  | [], i, h => by simp at h
  | c :: cs, i, h => by
    show (chV c ++ chsV cs)[i]? = _
    by_cases hi : i < 3
    · rw [List.getElem?_append_left (by simpa [chV] using hi)]
      match i, hi with
      | 0, _ => rfl
      | 1, _ => rfl
      | 2, _ => rfl
    · rw [List.getElem?_append_right (by simpa [chV] using hi)]
      have hl : (chV c).length = 3 := rfl
      rw [hl, chsV_get cs (i - 3) (by simp at h; omega)]
      have e1 : (i - 3) % 3 = i % 3 := by omega
      have e2 : i / 3 = (i - 3) / 3 + 1 := by omega
      unfold chAt
      rw [e1, e2, List.getD_cons_succ]
/-- The segment of a text: its three numbers and its changes. -/
abbrev G4 := Nat × Nat × Nat × List Chg
def sgOf (ns : List Nat) : G4 := (ns.getD 0 0, ns.getD 1 0, ns.getD 2 0, chOf ns (ns.length / 3 - 1))
def okLen (ns : List Nat) : Bool := decide (3 ≤ ns.length) && decide (ns.length % 3 = 0)
def g4B (q : G4) : Bool := segB q.1 q.2.1 q.2.2.1 q.2.2.2
def rdG (t : ByteArray) : Option G4 := (rdN t).bind fun ns => if okLen ns && g4B (sgOf ns) then some (sgOf ns) else none
def zG : G4 := (0, 0, 0, [])
theorem rdG_none {t : ByteArray} (h : rdN t = none) : rdG t = none := by unfold rdG; rw [h]; rfl
theorem rdG_len {t : ByteArray} {ns : List Nat} (h : rdN t = some ns) (hl : okLen ns = false) : rdG t = none := by unfold rdG; rw [h]; simp [hl]
theorem rdG_no {t : ByteArray} {ns : List Nat} (h : rdN t = some ns) (hl : g4B (sgOf ns) = false) : rdG t = none := by unfold rdG; rw [h]; simp [hl]
theorem rdG_yes {t : ByteArray} {ns : List Nat} (h : rdN t = some ns) (hl : okLen ns = true) (hb : g4B (sgOf ns) = true) : rdG t = some (sgOf ns) := by unfold rdG; rw [h]; simp [hl, hb]
theorem owns_slC {w : World} {B : Nat} {cs : List Chg} {v : Value} (h : w.ownsRow B 85 3 v cs.length (chsV cs)) :
    ∃ A c, v = .slice A cs.length c ∧ Sl w B A 85 (cs.length * 3) (chAt cs) := by
  rcases h.2 with ⟨rfl, h0⟩ | ⟨g, cap, cur, rfl, hb, hg, hnc, _, hcs, htk⟩
  · exact ⟨none, 0, by rw [h0], fun hn => by omega⟩
  · refine ⟨_, cap, rfl, Sl.own ⟨cur, hg, by have := Nat.mul_le_mul_right 3 hnc; omega, fun i hi => ?_⟩ hb⟩
    have h1 : (cur.toList.take (cs.length * 3))[i]? = some (chAt cs i) := by rw [htk]; exact chsV_get cs i hi
    rw [List.getElem?_take_of_lt hi] at h1
    simpa using h1
theorem owns_nx3 {w w' : World} {B : Nat} {e : TypeId} {v : Value} {n : Nat} {xs : List Value} (h : w.ownsRow B e 3 v n xs) (hb : Nx w w') : w'.ownsRow B e 3 v n xs := by
  refine h.kept (row := none) ⟨hb.os, hb.tape, hb.output, hb.size, fun i hi _ => hb.block i hi⟩ ?_
  cases hv : v.ownBlock with
  | none => exact .inl rfl
  | some g => exact .inr (by simp)
/-- A row of changes does not lie in a segment's own block. -/
theorem owns_ne {w : World} {B g : Nat} {v : Value} {n : Nat} {xs : List Value} {cs : Array Value} (h : w.ownsRow B 85 3 v n xs) (hb : Box w g 38 cs) : some g ≠ v.ownBlock := by
  intro he
  rcases h.2 with ⟨rfl, _⟩ | ⟨g', cap, cur, rfl, _, hg, _⟩
  · simp [Value.ownBlock] at he
  · obtain rfl : g = g' := by simpa [Value.ownBlock] using he
    unfold Box at hb
    rw [hg] at hb
    injection hb with hb
    injection hb with _ hb
    exact absurd hb (by decide)
theorem owns_far {w : World} {B g : Nat} {v u : Value} {n i : Nat} {xs : List Value} {cs : Array Value} (h : w.ownsRow B 85 3 v n xs) (hb : Box w g 38 cs) : (w.setCell ⟨g, i, none⟩ u).ownsRow B 85 3 v n xs :=
  h.kept (row := some g) ⟨rfl, rfl, rfl, by simp [World.setCell], fun k hk hn => Below.heap_setCell _ _ _ _ (fun e => hn (by rw [e]))⟩ (.inr (fun e => owns_ne h hb e.symm))
theorem info_chg : (Tryd.prog.info? 85).map (fun i => (i.zero, i.size, i.bytes)) = some (some (.agg #[.int .i64 0, .int .i64 0, .int .i64 0]), 3, 24) := by kernel_rfl
end Go.Proofs.YtehahodomfbpjaaDoor
