/-
  Contracts of SegText, as the model and as the program have it: both answer the same text and code.
  Conditions: the segment can be read, and has at most 1048576 changes.
-/
import Derived.Test.YtiocbppldpogpaaDoorSgs
import Derived.Test.YtiocbppldpogpaaDoorSgi
import Derived.Test.YtiocbppldpogpaaDoorNmt
import Derived.Deep.AppendLies
namespace Go.Proofs.YtiocbppldpogpaaDoor
set_option linter.unusedVariables false
open Go.RowKit

/-- The numbers of a segment's text. -/
def chN (c : Chg) : List Nat := [c.1.toNat, c.2.1.toNat, c.2.2.toNat]
def segN (f t m : Int) (cs : List Chg) : List Nat := [f.toNat, t.toNat, m.toNat] ++ cs.flatMap chN
def chV (c : Chg) : List Value := [.int .i64 c.1, .int .i64 c.2.1, .int .i64 c.2.2]
def segV (f t m : Int) (cs : List Chg) : List Value := [.int .i64 f, .int .i64 t, .int .i64 m] ++ cs.flatMap chV
theorem flat_len {α : Type} (g : Chg → List α) (hg : ∀ c, (g c).length = 3) (cs : List Chg) : (cs.flatMap g).length = 3 * cs.length := by
  induction cs with
  | nil => rfl
  | cons a l ih => simp [hg, ih]; omega
theorem segN_len (f t m : Int) (cs : List Chg) : (segN f t m cs).length = 3 + 3 * cs.length := by
  unfold segN; rw [List.length_append, flat_len chN (fun _ => rfl)]; simp
theorem segV_len (f t m : Int) (cs : List Chg) : (segV f t m cs).length = 3 + 3 * cs.length := by
  unfold segV; rw [List.length_append, flat_len chV (fun _ => rfl)]; simp
theorem segV_succ (f t m : Int) (cs : List Chg) (k : Nat) (hk : k < cs.length) {x y z : Int} (h : cs.getD k chZ = (x, y, z)) :
    segV f t m (cs.take (k + 1)) = segV f t m (cs.take k) ++ [.int .i64 x, .int .i64 y, .int .i64 z] := by
  unfold segV
  have e : cs[k] = (x, y, z) := by rw [← h, List.getD_eq_getElem?_getD, List.getElem?_eq_getElem hk]; rfl
  rw [List.take_succ_eq_append_getElem hk, List.flatMap_append, List.append_assoc, e]; simp [chV]
theorem mem_chB {cs : List Chg} (h : chsB cs = true) {c : Chg} (hc : c ∈ cs) : chB c = true := by
  obtain ⟨k, hk, rfl⟩ := List.mem_iff_getElem.1 hc
  have := chsB_to h k hk
  unfold okCh at this
  simp only [Bool.and_eq_true] at this
  have h1 := this.1
  rw [List.getD_eq_getElem?_getD, List.getElem?_eq_getElem hk] at h1
  exact h1
theorem chB_yes {c : Chg} (h : chB c = true) : (0 ≤ c.1 ∧ c.1 ≤ 7) ∧ (0 ≤ c.2.1 ∧ c.2.1 ≤ 999999) ∧ (0 ≤ c.2.2 ∧ c.2.2 ≤ 999999) := by
  unfold chB at h
  simp only [Bool.and_eq_true] at h
  exact ⟨inB_yes h.1.1, inB_yes h.1.2, inB_yes h.2⟩
theorem segB_yes {f t m : Int} {cs : List Chg} (h : segB f t m cs = true) : (0 ≤ f ∧ f ≤ 999999) ∧ (0 ≤ t ∧ t ≤ 999999) ∧ f < t ∧ (0 ≤ m ∧ m ≤ 999999) ∧ chsB cs = true := by
  unfold segB at h
  simp only [Bool.and_eq_true, decide_eq_true_eq] at h
  exact ⟨inB_yes h.1.1.1.1, inB_yes h.1.1.1.2, h.1.1.2, inB_yes h.1.2, h.2⟩
def vI (n : Nat) : Value := .int .i64 (n : Int)
theorem vI_toNat {a : Int} (h : 0 ≤ a) : vI a.toNat = .int .i64 a := by unfold vI; rw [Int.toNat_of_nonneg h]
theorem segV_map {f t m : Int} {cs : List Chg} (h : segB f t m cs = true) : segV f t m cs = (segN f t m cs).map vI := by
  obtain ⟨⟨h1, _⟩, ⟨h2, _⟩, _, ⟨h3, _⟩, h4⟩ := segB_yes h
  have key : cs.flatMap chV = (cs.flatMap chN).map vI := by
    rw [List.map_flatMap]
    have e : ∀ c ∈ cs, chV c = (chN c).map vI := fun c hc => by
      obtain ⟨⟨a1, _⟩, ⟨a2, _⟩, ⟨a3, _⟩⟩ := chB_yes (mem_chB h4 hc)
      simp only [chV, chN, List.map_cons, List.map_nil, vI_toNat a1, vI_toNat a2, vI_toNat a3]
    clear h4 h
    induction cs with
    | nil => rfl
    | cons a l ih =>
      rw [List.flatMap_cons, List.flatMap_cons, e a (by simp), ih (fun c hc => e c (by simp [hc]))]
  unfold segV segN
  rw [key, List.map_append]
  simp only [List.map_cons, List.map_nil, vI_toNat h1, vI_toNat h2, vI_toNat h3]
theorem segN_all {f t m : Int} {cs : List Chg} (h : segB f t m cs = true) : All6 (segN f t m cs) := by
  obtain ⟨⟨h1, k1⟩, ⟨h2, k2⟩, _, ⟨h3, k3⟩, h4⟩ := segB_yes h
  have key : ∀ n ∈ segN f t m cs, n ≤ 999999 := by
    intro n hn
    unfold segN at hn
    rw [List.mem_append] at hn
    rcases hn with hn | hn
    · simp only [List.mem_cons, List.not_mem_nil, or_false] at hn
      omega
    · obtain ⟨c, hc, hn⟩ := List.mem_flatMap.1 hn
      obtain ⟨⟨a1, b1⟩, ⟨a2, b2⟩, ⟨a3, b3⟩⟩ := chB_yes (mem_chB h4 hc)
      simp only [chN, List.mem_cons, List.not_mem_nil, or_false] at hn
      omega
  intro k hk
  rw [List.getD_eq_getElem?_getD, List.getElem?_eq_getElem hk]
  exact key _ (List.getElem_mem hk)
theorem Own.new3 (w : World) (t : TypeId) (a b c : Value) : Own (w.alloc (.cells #[a, b, c] t)) w.heap.size t 3 (fun i => #[a, b, c].getD i undef) :=
  ⟨_, heap_alloc_new w _, by simp, fun i hi => by
    match i, hi with
    | 0, _ => rfl
    | 1, _ => rfl
    | 2, _ => rfl⟩
theorem owns_new3 (w : World) (t : TypeId) (a b c : Value) {B : Nat} (hB : B ≤ w.heap.size) : (w.alloc (.cells #[a, b, c] t)).ownsRow B t 1 (.slice (some ⟨w.heap.size, 0, none⟩) 3 3) 3 [a, b, c] :=
  ⟨rfl, .inr ⟨_, 3, #[a, b, c], rfl, hB, heap_alloc_new w _, by omega, by unfold maxLen; omega, rfl, rfl⟩⟩
theorem Nx.of_two {a w u : World} (h : Nx a w) (k : Nx a u) : ∀ p : Addr, p.block < a.heap.size → w.cell? p = u.cell? p := fun p hp => (h.cell hp).trans (k.cell hp).symm
theorem owns_nx {w w' : World} {B : Nat} {e : TypeId} {v : Value} {n : Nat} {xs : List Value} (h : w.ownsRow B e 1 v n xs) (hb : Nx w w') : w'.ownsRow B e 1 v n xs := by
  refine h.kept (row := none) ⟨hb.os, hb.tape, hb.output, hb.size, fun i hi _ => hb.block i hi⟩ ?_
  cases hv : v.ownBlock with
  | none => exact .inl rfl
  | some g => exact .inr (by simp)
theorem owns_row {w : World} {B : Nat} {ns : List Nat} {v : Value} (h : w.ownsRow B 3 1 v ns.length (ns.map vI)) (hn : 0 < ns.length) :
    ∃ A c, v = .slice A ns.length c ∧ Row w w.heap.size A ns.length (intAt ns) := by
  obtain ⟨g, cap, rfl, _, hlt⟩ := h.form hn
  refine ⟨_, cap, rfl, fun _ => ⟨g, 0, rfl, hlt, fun i hi => ?_⟩⟩
  rw [Nat.zero_add, h.cellAt i (by omega), List.getElem?_map, List.getElem?_eq_getElem hi]
  unfold intAt vI
  rw [List.getD_eq_getElem?_getD, List.getElem?_eq_getElem hi]; rfl
theorem info_int : (Tryd.prog.info? 3).map (fun i => (i.zero, i.size, i.bytes)) = some (some (.int .i64 0), 1, 8) := by kernel_rfl

def segS (f t m : Int) (cs : List Chg) : ByteArray := if segB f t m cs then sealS (numsS (segN f t m cs)) else ⟨#[]⟩

set_option maxRecDepth 100000 in
set_option maxHeartbeats 4000000 in
theorem numbers_c (f t m : Int) (A : Option Addr) (c B : Nat) (cs : List Chg) (w : World) (h : Chs w B A cs) (hB : B ≤ w.heap.size) (hn : cs.length ≤ 8) (hok : segB f t m cs = true) :
    Calls Tryd.prog 34 #[.agg #[.int .i64 f, .int .i64 t, .int .i64 m, .slice A cs.length c]] w fun e w' => ∃ A' c', e = .returned (.slice A' (segN f t m cs).length c') ∧ Row w' w'.heap.size A' (segN f t m cs).length (intAt (segN f t m cs)) ∧ Nx w w' := by
  obtain ⟨i0, hi0, hz0, hz1, hz2⟩ := info_parts info_int
  have HV := Lib.hid (segV_map hok)
  clear hok
  go_enter Tryd.func34, Tryd.ntmps34
  go_wp2_with fail
  have b0 := Box.new w 25 #[.int .i64 f, .int .i64 t, .int .i64 m, .slice A cs.length c]
  have hx0 := (Nx.refl w).alloc (.cells #[.int .i64 f, .int .i64 t, .int .i64 m, .slice A cs.length c] 25)
  have hsz : (w.alloc (.cells #[.int .i64 f, .int .i64 t, .int .i64 m, .slice A cs.length c] 25)).heap.size = w.heap.size + 1 := by simp
  have hw0 := owns_new3 (w.alloc (.cells #[.int .i64 f, .int .i64 t, .int .i64 m, .slice A cs.length c] 25)) 3 (.int .i64 f) (.int .i64 t) (.int .i64 m) (Nat.le_refl _)
  have hn0 := (Nx.refl (w.alloc (.cells #[.int .i64 f, .int .i64 t, .int .i64 m, .slice A cs.length c] 25))).alloc (.cells #[.int .i64 f, .int .i64 t, .int .i64 m] 3)
  generalize w.alloc (.cells #[.int .i64 f, .int .i64 t, .int .i64 m, .slice A cs.length c] 25) = W at *
  rw [hsz] at hw0
  have Hsz := Lib.hid hsz
  clear hsz
  go_loopw [3, 16] (fun s i wr => ∃ (k : Nat) (v : Value), k ≤ cs.length ∧ i = .int .i64 k ∧ v = s ∧ wr.ownsRow W.heap.size 3 1 v (3 + 3 * k) (segV f t m (cs.take k)) ∧ Nx W wr) (fun _ i _ => cs.length - (intOf i).toNat)
  case atStart => exact ⟨0, _, Nat.zero_le _, rfl, rfl, by rw [Hsz.out]; exact hw0, hn0⟩
  case round =>
    obtain ⟨k, v, hk, rfl, rfl, hw, hnx⟩ := hrel
    clear hw0 hn0
    by_cases hlt : k < cs.length
    · obtain ⟨b, off, rfl, hb, k0, k1, k2⟩ := (h.below (hx0.trans hnx) hB).at_ hlt
      obtain ⟨⟨q0, q1, q2⟩, Hq⟩ : ∃ q, Hid (cs.getD k chZ = q) := ⟨_, rfl⟩
      rw [Hq.out] at k0 k1 k2
      have hw1 := (hw.alloc (.cells #[.int .i64 q0, .int .i64 q1, .int .i64 q2] 66)).alloc (.cells #[.int .i64 q0, .int .i64 q1, .int .i64 q2] 3)
      have ho1 := Own.new3 (wr.alloc (.cells #[.int .i64 q0, .int .i64 q1, .int .i64 q2] 66)) 3 (.int .i64 q0) (.int .i64 q1) (.int .i64 q2)
      have hx1 := (hnx.alloc (.cells #[.int .i64 q0, .int .i64 q1, .int .i64 q2] 66)).alloc (.cells #[.int .i64 q0, .int .i64 q1, .int .i64 q2] 3)
      simp only [World.size_alloc] at ho1
      have HN : Hid (∀ j u, [Value.int .i64 q0, .int .i64 q1, .int .i64 q2][j]? = some u → ((wr.alloc (.cells #[.int .i64 q0, .int .i64 q1, .int .i64 q2] 66)).alloc (.cells #[.int .i64 q0, .int .i64 q1, .int .i64 q2] 3)).cell? ((Addr.mk (wr.heap.size + 1) 0 none).add j) = some u) := Lib.hid (fun j u hj => by
        rcases j with _ | _ | _ | j
        · injection hj with hj; subst hj; exact (ho1.cell (i := 0) (by omega))
        · injection hj with hj; subst hj; exact (ho1.cell (i := 1) (by omega))
        · injection hj with hj; subst hj; exact (ho1.cell (i := 2) (by omega))
        · simp at hj)
      have HO : Hid (∀ u ∈ [Value.int .i64 q0, .int .i64 q1, .int .i64 q2], u.oneCell' = true) := Lib.hid (fun u hu => by simp only [List.mem_cons, List.not_mem_nil, or_false] at hu; rcases hu with rfl | rfl | rfl <;> rfl)
      go_wp2_with (at_builtin; refine wpList_append_own _ rfl _ _ 54 rfl W.heap.size 3 i0 _ 1 8 Tryd.underlying54 hi0 hz0 hz1 hz2 rfl (by omega) v (3 + 3 * k) _ rfl hw1 ⟨wr.heap.size + 1, 0, none⟩ 3 3 [.int .i64 q0, .int .i64 q1, .int .i64 q2] rfl rfl HN.out HO.out ?c3 ?c4 ?c5 ?_)
      case c3 => unfold maxLen; omega
      case c4 => omega
      case c5 => have := hx1.size; simp only [World.size_alloc] at this ⊢; omega
      intro v2 w2 hw2 hg2 _
      have hx2 : Nx W w2 := Below.grown hx1 hg2 hx1.size (fun k hk => (hw1.lt k hk).1)
      go_wp2
      go_roundw
      case rel =>
        refine ⟨k + 1, _, by omega, by go_num, rfl, ?_, hx2⟩
        rw [segV_succ f t m cs k hlt Hq.out]
        exact hw2
      case measure => simp [intOf]; omega
    · obtain rfl : k = cs.length := by omega
      rw [List.take_length, HV.out] at hw
      have hl := segN_len f t m cs
      rw [← hl] at hw
      obtain ⟨A', c', rfl, hrow⟩ := owns_row hw (by omega)
      clear hl hw
      go_wp2
      go_ret
      exact ⟨A', c', rfl, hrow, hx0.trans hnx⟩
set_option maxRecDepth 100000 in
set_option maxHeartbeats 4000000 in
theorem l02Text_c (f t m : Int) (A : Option Addr) (c B : Nat) (cs : List Chg) (w : World) (h : Chs w B A cs) (hB : B ≤ w.heap.size) (hn : cs.length ≤ 8) (hok : segB f t m cs = true) :
    Calls Tryd.prog 36 #[.agg #[.int .i64 f, .int .i64 t, .int .i64 m, .slice A cs.length c]] w fun e w' => e = .returned (.string (sealS (numsS (segN f t m cs)))) ∧ Nx w w' := by
  obtain ⟨i0, hi0, hz0, hz1, hz2⟩ := info_parts info_int
  have HV := Lib.hid (segV_map hok)
  have h6 := segN_all hok
  clear hok
  go_enter Tryd.func36, Tryd.ntmps36
  go_wp2_with fail
  have b0 := Box.new w 25 #[.int .i64 f, .int .i64 t, .int .i64 m, .slice A cs.length c]
  have hx0 := (Nx.refl w).alloc (.cells #[.int .i64 f, .int .i64 t, .int .i64 m, .slice A cs.length c] 25)
  have hsz : (w.alloc (.cells #[.int .i64 f, .int .i64 t, .int .i64 m, .slice A cs.length c] 25)).heap.size = w.heap.size + 1 := by simp
  have hw0 := owns_new3 (w.alloc (.cells #[.int .i64 f, .int .i64 t, .int .i64 m, .slice A cs.length c] 25)) 3 (.int .i64 f) (.int .i64 t) (.int .i64 m) (Nat.le_refl _)
  have hn0 := (Nx.refl (w.alloc (.cells #[.int .i64 f, .int .i64 t, .int .i64 m, .slice A cs.length c] 25))).alloc (.cells #[.int .i64 f, .int .i64 t, .int .i64 m] 3)
  generalize w.alloc (.cells #[.int .i64 f, .int .i64 t, .int .i64 m, .slice A cs.length c] 25) = W at *
  rw [hsz] at hw0
  have Hsz := Lib.hid hsz
  clear hsz
  go_loopw [3, 4] (fun s i wr => ∃ (k : Nat) (v : Value), k ≤ cs.length ∧ i = .int .i64 k ∧ v = s ∧ wr.ownsRow W.heap.size 3 1 v (3 + 3 * k) (segV f t m (cs.take k)) ∧ Nx W wr) (fun _ i _ => cs.length - (intOf i).toNat)
  case atStart => exact ⟨0, _, Nat.zero_le _, rfl, rfl, by rw [Hsz.out]; exact hw0, hn0⟩
  case round =>
    obtain ⟨k, v, hk, rfl, rfl, hw, hnx⟩ := hrel
    obtain ⟨_, _, _, c3⟩ := (b0.nx hnx).d4
    clear hw0 hn0
    by_cases hlt : k < cs.length
    · obtain ⟨b, off, rfl, hb, k0, k1, k2⟩ := (h.below (hx0.trans hnx) hB).at_ hlt
      obtain ⟨⟨q0, q1, q2⟩, Hq⟩ : ∃ q, Hid (cs.getD k chZ = q) := ⟨_, rfl⟩
      rw [Hq.out] at k0 k1 k2
      have hbw : b < W.heap.size := by have := hx0.size; omega
      have hbv : w.heap.size < W.heap.size := b0.lt
      go_wp2_with fail
      refine wp_region_lex [false, false, false, false, false, false, false, false, false, false, false, false, false, false, false, false, false, false, false, true, true, false] (fun w' => w'.cell? ⟨w.heap.size, 3, none⟩ = some (.slice (some ⟨b, off, none⟩) cs.length c) ∧ w'.cell? ⟨b, off + k * 3, none⟩ = some (.int .i64 q0) ∧ w'.cell? ⟨b, off + k * 3 + 1, none⟩ = some (.int .i64 q1) ∧ w'.cell? ⟨b, off + k * 3 + 2, none⟩ = some (.int .i64 q2)) (by kernel_rfl) (by kernel_rfl) rfl (by kernel_rfl) (fun _ _ d _ _ h => by cases d <;> exact h) (by exact ⟨c3, k0, k1, k2⟩) ?_
      repeat (first | (refine HL.take (v := ?_) (by rfl) ?_ ?_; rotate_left; (· (intro w hSw; (try dsimp only at hSw); go_simp; try with_reducible rfl)); (try simp only [Act.put, List.setIfInBounds_toArray, List.set_cons_zero, List.set_cons_succ])) | (refine HL.skip (by rfl) ?_; (try simp only [Act.put, List.setIfInBounds_toArray, List.set_cons_zero, List.set_cons_succ])))
      refine HL.call (by rfl) (fun K hK => ?_)
      go_simp
      have hn1 : Nx wr.drew (wr.drew.alloc (.cells #[.int .i64 q0, .int .i64 q1, .int .i64 q2] 3)) := (Nx.refl _).alloc _
      change K _ (wr.drew.alloc _)
      have ho1 := Own.new3 wr.drew 3 (.int .i64 q0) (.int .i64 q1) (.int .i64 q2)
      have hw1 := (hw.drew).alloc (.cells #[.int .i64 q0, .int .i64 q1, .int .i64 q2] 3)
      have hx1 := hnx.drew.trans hn1
      refine hK.out _ _ (by exact ⟨(hx1.of_two hnx ⟨w.heap.size, 3, none⟩ hbv).trans c3, (hx1.of_two hnx ⟨b, off + k * 3, none⟩ hbw).trans k0, (hx1.of_two hnx ⟨b, off + k * 3 + 1, none⟩ hbw).trans k1, (hx1.of_two hnx ⟨b, off + k * 3 + 2, none⟩ hbw).trans k2⟩) ?_
      generalize wr.drew.alloc (.cells #[.int .i64 q0, .int .i64 q1, .int .i64 q2] 3) = wz at *
      clear hK K
      try simp only [Act.put, List.setIfInBounds_toArray, List.set_cons_zero, List.set_cons_succ]
      refine HL.call (by rfl) (fun K hK => ?_)
      refine wp_append_own wz _ _ 54 rfl W.heap.size 3 i0 _ 1 8 Tryd.underlying54 hi0 hz0 hz1 hz2 rfl (by omega) v (3 + 3 * k) _ rfl hw1 ⟨wr.heap.size, 0, none⟩ 3 3 [.int .i64 q0, .int .i64 q1, .int .i64 q2] rfl rfl (fun j u hj => ?_) (fun u hu => ?_) (by unfold maxLen; omega) (by omega) (by have := hx1.size; omega) ?_
      · rcases j with _ | _ | _ | j
        · injection hj with hj; subst hj; exact (ho1.cell (i := 0) (by omega))
        · injection hj with hj; subst hj; exact (ho1.cell (i := 1) (by omega))
        · injection hj with hj; subst hj; exact (ho1.cell (i := 2) (by omega))
        · simp at hj
      · simp only [List.mem_cons, List.not_mem_nil, or_false] at hu; rcases hu with rfl | rfl | rfl <;> rfl
      intro v2 w2 hw2 hg2 _
      have hx2 : Nx W w2 := Below.grown hx1 hg2 hx1.size (fun k hk => (hw1.lt k hk).1)
      refine hK.out _ _ (by exact ⟨(hx2.of_two hnx ⟨w.heap.size, 3, none⟩ hbv).trans c3, (hx2.of_two hnx ⟨b, off + k * 3, none⟩ hbw).trans k0, (hx2.of_two hnx ⟨b, off + k * 3 + 1, none⟩ hbw).trans k1, (hx2.of_two hnx ⟨b, off + k * 3 + 2, none⟩ hbw).trans k2⟩) ?_
      clear hK K
      try simp only [Act.put, List.setIfInBounds_toArray, List.set_cons_zero, List.set_cons_succ]
      repeat (first | (refine HL.take (v := ?_) (by rfl) ?_ ?_; rotate_left; (· (intro w hSw; (try dsimp only at hSw); go_simp; try with_reducible rfl)); (try simp only [Act.put, List.setIfInBounds_toArray, List.set_cons_zero, List.set_cons_succ])) | (refine HL.skip (by rfl) ?_; (try simp only [Act.put, List.setIfInBounds_toArray, List.set_cons_zero, List.set_cons_succ])))
      refine HL.done ?_
      go_wp2
      go_roundw
      case rel =>
        refine ⟨k + 1, _, by omega, by go_num, rfl, ?_, hx2⟩
        rw [segV_succ f t m cs k hlt Hq.out]
        exact hw2
      case measure => simp [intOf]; omega
    · obtain rfl : k = cs.length := by omega
      rw [List.take_length, HV.out] at hw
      have hl := segN_len f t m cs
      rw [← hl] at hw
      obtain ⟨A', c', rfl, hrow⟩ := owns_row hw (by omega)
      have Hl := Lib.hid hl
      clear hl hw
      go_wp2_with fail
      refine (l02Join_c A' c' _ (segN f t m cs) _ hrow (Nat.le_refl _) h6 (by have := Hl.out; omega)).mono ?_
      rintro e w1 ⟨rfl, hnx1⟩
      go_wp2_with fail
      refine (l02Seal_c (numsS (segN f t m cs)) _ (by rw [numsS_size]; have := Hl.out; omega)).mono ?_
      rintro e w2 ⟨rfl, hnx2⟩
      go_wp2
      go_ret
      exact ⟨rfl, ((hx0.trans hnx).trans hnx1).trans hnx2⟩
set_option maxHeartbeats 2000000 in
theorem specSegText_c (f t m : Int) (A : Option Addr) (c B : Nat) (cs : List Chg) (w : World) (h : Chs w B A cs) (hB : B ≤ w.heap.size) (hn : cs.length ≤ 1048576) :
    Calls Tryd.prog 9 #[.agg #[.int .i64 f, .int .i64 t, .int .i64 m, .slice A cs.length c]] w fun e w' => e = .returned (.tuple #[.string (segS f t m cs), .int .i64 (codeB (segB f t m cs) 1)]) ∧ Nx w w' := by
  cases hf : segB f t m cs with
  | false =>
    have HF := Lib.hid hf
    have HS := Lib.hid (show (⟨#[]⟩ : ByteArray) = segS f t m cs by unfold segS; rw [hf]; rfl)
    clear hf
    go_enter Tryd.func9, Tryd.ntmps9
    go_wp2_with fail
    refine (specSegOK_c f t m A c B cs _ (h.below ((Nx.refl w).alloc _) hB) (Nat.le_trans hB (by simp)) hn).mono ?_
    rintro e w1 ⟨rfl, hnx1⟩
    rw [HF.out]
    go_wp2
    go_ret2
    exact ⟨ret_tup HS.out rfl, ((Nx.refl w).alloc _).trans hnx1⟩
  | true =>
    have HF := Lib.hid hf
    have hl8 := chsB_len (segB_yes hf).2.2.2.2
    have HS := Lib.hid (show sealS (numsS (segN f t m cs)) = segS f t m cs by unfold segS; rw [hf]; rfl)
    clear hf
    go_enter Tryd.func9, Tryd.ntmps9
    go_wp2_with fail
    have b0 := Box.new w 25 #[.int .i64 f, .int .i64 t, .int .i64 m, .slice A cs.length c]
    have hx0 := (Nx.refl w).alloc (.cells #[.int .i64 f, .int .i64 t, .int .i64 m, .slice A cs.length c] 25)
    generalize w.alloc (.cells #[.int .i64 f, .int .i64 t, .int .i64 m, .slice A cs.length c] 25) = W at *
    refine (specSegOK_c f t m A c B cs _ (h.below hx0 hB) (Nat.le_trans hB hx0.size) hn).mono ?_
    rintro e w1 ⟨rfl, hnx1⟩
    rw [HF.out]
    obtain ⟨c0, c1, c2, c3⟩ := (b0.nx hnx1).d4
    have hx1 := hx0.trans hnx1
    go_wp2_with fail
    refine (l02Text_c f t m A c B cs _ (h.below hx1 hB) (Nat.le_trans hB hx1.size) hl8 HF.out).mono ?_
    rintro e w2 ⟨rfl, hnx2⟩
    have hxz := hx1.trans hnx2
    go_wp2
    go_ret2
    exact ⟨ret_tup HS.out rfl, hxz⟩
set_option maxHeartbeats 2000000 in
theorem implSegText_c (f t m : Int) (A : Option Addr) (c B : Nat) (cs : List Chg) (w : World) (h : Chs w B A cs) (hB : B ≤ w.heap.size) (hn : cs.length ≤ 1048576) :
    Calls Tryd.prog 8 #[.agg #[.int .i64 f, .int .i64 t, .int .i64 m, .slice A cs.length c]] w fun e w' => e = .returned (.tuple #[.string (segS f t m cs), .int .i64 (codeB (segB f t m cs) 1)]) ∧ Nx w w' := by
  cases hf : segB f t m cs with
  | false =>
    have HF := Lib.hid hf
    have HS := Lib.hid (show (⟨#[]⟩ : ByteArray) = segS f t m cs by unfold segS; rw [hf]; rfl)
    clear hf
    go_enter Tryd.func8, Tryd.ntmps8
    go_wp2_with fail
    refine (segRight_c f t m A c B cs _ (h.below ((Nx.refl w).alloc _) hB) (Nat.le_trans hB (by simp)) hn).mono ?_
    rintro e w1 ⟨rfl, hnx1⟩
    rw [HF.out]
    go_wp2
    go_ret2
    exact ⟨ret_tup HS.out rfl, ((Nx.refl w).alloc _).trans hnx1⟩
  | true =>
    have HF := Lib.hid hf
    have hl8 := chsB_len (segB_yes hf).2.2.2.2
    have HS := Lib.hid (show sealS (numsS (segN f t m cs)) = segS f t m cs by unfold segS; rw [hf]; rfl)
    clear hf
    go_enter Tryd.func8, Tryd.ntmps8
    go_wp2_with fail
    have b0 := Box.new w 25 #[.int .i64 f, .int .i64 t, .int .i64 m, .slice A cs.length c]
    have hx0 := (Nx.refl w).alloc (.cells #[.int .i64 f, .int .i64 t, .int .i64 m, .slice A cs.length c] 25)
    generalize w.alloc (.cells #[.int .i64 f, .int .i64 t, .int .i64 m, .slice A cs.length c] 25) = W at *
    refine (segRight_c f t m A c B cs _ (h.below hx0 hB) (Nat.le_trans hB hx0.size) hn).mono ?_
    rintro e w1 ⟨rfl, hnx1⟩
    rw [HF.out]
    obtain ⟨c0, c1, c2, c3⟩ := (b0.nx hnx1).d4
    have hx1 := hx0.trans hnx1
    go_wp2_with fail
    refine (numbers_c f t m A c B cs _ (h.below hx1 hB) (Nat.le_trans hB hx1.size) hl8 HF.out).mono ?_
    rintro e w2 ⟨A', c', rfl, hrow, hnx2⟩
    have Hl := Lib.hid (segN_len f t m cs)
    go_wp2_with fail
    refine (numbersText_c A' c' _ (segN f t m cs) _ hrow (Nat.le_refl _) (segN_all HF.out) (by have := Hl.out; omega) (by have := Hl.out; omega)).mono ?_
    rintro e w3 ⟨rfl, hnx3⟩
    go_wp2_with fail
    refine (sealed_c (numsS (segN f t m cs)) _ (by rw [numsS_size]; have := Hl.out; omega)).mono ?_
    rintro e w4 ⟨rfl, hnx4⟩
    have hxz := ((hx1.trans hnx2).trans hnx3).trans hnx4
    go_wp2
    go_ret2
    exact ⟨ret_tup HS.out rfl, hxz⟩
end Go.Proofs.YtiocbppldpogpaaDoor
