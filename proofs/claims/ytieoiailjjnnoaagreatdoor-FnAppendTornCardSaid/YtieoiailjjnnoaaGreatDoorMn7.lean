/-
  Texts of the proof, in their order.
  Conditions: those of each.
-/
import Derived.Test.YtieoiailjjnnoaaGreatDoorMn6
import Derived.Deep.AppendLies
import Derived.Shelf.Strings.OnBuilder
import Derived.Shelf.Strconv.Itoa3
import Derived.Shelf.LaysM
import Derived.Test.YtieoiailjjnnoaaGreatDoorProg
namespace Go.Proofs.YtieoiailjjnnoaaGreatDoor
set_option linter.unusedVariables false
open _root_.Go.Proofs.Tryz
set_option maxRecDepth 100000
set_option maxHeartbeats 16000000
section
open Go.RowKit
def chN (c : Chg) : List Nat := [c.1.toNat, c.2.1.toNat, c.2.2.toNat]
def segN (f t m : Int) (cs : List Chg) : List Nat := [f.toNat, t.toNat, m.toNat] ++ cs.flatMap chN
def chV (c : Chg) : List Value := [ii c.1, ii c.2.1, ii c.2.2]
def segV (f t m : Int) (cs : List Chg) : List Value := [ii f, ii t, ii m] ++ cs.flatMap chV
theorem flat_len {α : Type} (g : Chg -> List α) (hg : ∀ c, (g c).length = 3) (cs : List Chg) : (cs.flatMap g).length = 3 * cs.length := by
 induction cs with
 | nil => rfl
 | cons a l ih => simp [hg, ih]; omega
theorem segN_len (f t m : Int) (cs : List Chg) : (segN f t m cs).length = 3 + 3 * cs.length := by
 unfold segN; rw [List.length_append, flat_len chN (fun _ => rfl)]; simp
theorem segV_succ (f t m : Int) (cs : List Chg) (k : Nat) (hk : k < cs.length) {x y z : Int} (h : cs.getD k chZ = (x, y, z)) :
 segV f t m (cs.take (k + 1)) = segV f t m (cs.take k) ++ [ii x, ii y, ii z] := by
 unfold segV
 have e : cs[k] = (x, y, z) := by rw [<- h, gdE, List.getElem?_eq_getElem hk]; rfl
 rw [List.take_succ_eq_append_getElem hk, List.flatMap_append, List.append_assoc, e]; simp [chV]
theorem mem_chB {cs : List Chg} (h : chsB cs = true) {c : Chg} (hc : c ∈ cs) : chB c = true := by
 obtain ⟨k, hk, rfl⟩ := List.mem_iff_getElem.1 hc
 have := chsB_to h k hk
 unfold okCh at this
 simp only [Bool.and_eq_true] at this
 have h1 := this.1
 rw [gdE, List.getElem?_eq_getElem hk] at h1
 exact h1
theorem chB_yes {c : Chg} (h : chB c = true) : (0 <= c.1 /\ c.1 <= 7) /\ (0 <= c.2.1 /\ c.2.1 <= 999999) /\ (0 <= c.2.2 /\ c.2.2 <= 999999) := by
 unfold chB at h
 simp only [Bool.and_eq_true] at h
 exact ⟨inB_yes h.1.1, inB_yes h.1.2, inB_yes h.2⟩
theorem segB_yes {f t m : Int} {cs : List Chg} (h : segB f t m cs = true) : (0 <= f /\ f <= 999999) /\ (0 <= t /\ t <= 999999) /\ f < t /\ (0 <= m /\ m <= 999999) /\ chsB cs = true := by
 unfold segB at h
 simp only [Bool.and_eq_true, decide_eq_true_eq] at h
 exact ⟨inB_yes h.1.1.1.1, inB_yes h.1.1.1.2, h.1.1.2, inB_yes h.1.2, h.2⟩
theorem segV_map {f t m : Int} {cs : List Chg} (h : segB f t m cs = true) : segV f t m cs = (segN f t m cs).map vI := by
 obtain ⟨⟨h1, _⟩, ⟨h2, _⟩, _, ⟨h3, _⟩, h4⟩ := segB_yes h
 have key : cs.flatMap chV = (cs.flatMap chN).map vI := by
  rw [List.map_flatMap]
  have e : ∀ c ∈ cs, chV c = (chN c).map vI := fun c hc => by
   obtain ⟨⟨a1, _⟩, ⟨a2, _⟩, ⟨a3, _⟩⟩ := chB_yes (mem_chB h4 hc)
   simp only [chV, chN, List.map_cons, List.map_nil, vI_toNat a1, vI_toNat a2, vI_toNat a3]
  clear h4 h
  induction cs with
  | nil => rfl
  | cons a l ih =>
    rw [List.flatMap_cons, List.flatMap_cons, e a (by simp), ih (fun c hc => e c (by simp [hc]))]
 unfold segV segN
 rw [key, List.map_append]
 simp only [List.map_cons, List.map_nil, vI_toNat h1, vI_toNat h2, vI_toNat h3]
theorem segN_all {f t m : Int} {cs : List Chg} (h : segB f t m cs = true) : All6 (segN f t m cs) := by
 obtain ⟨⟨h1, k1⟩, ⟨h2, k2⟩, _, ⟨h3, k3⟩, h4⟩ := segB_yes h
 have key : ∀ n ∈ segN f t m cs, n <= 999999 := by
  intro n hn
  unfold segN at hn
  rw [List.mem_append] at hn
  rcases hn with hn | hn
  . simp only [List.mem_cons, List.not_mem_nil, or_false] at hn
    omega
  . obtain ⟨c, hc, hn⟩ := List.mem_flatMap.1 hn
    obtain ⟨⟨a1, b1⟩, ⟨a2, b2⟩, ⟨a3, b3⟩⟩ := chB_yes (mem_chB h4 hc)
    simp only [chN, List.mem_cons, List.not_mem_nil, or_false] at hn
    omega
 intro k hk
 rw [gdE, List.getElem?_eq_getElem hk]
 exact key _ (List.getElem_mem hk)
theorem Own.new3 (w : World) (t : TypeId) (a b c : Value) : Own (w.alloc (.cells #[a, b, c] t)) w.heap.size t 3 (fun i => #[a, b, c].getD i undef) :=
 ⟨_, heap_alloc_new w _, by simp, fun i hi => by
  match i, hi with
  | 0, _ => rfl
  | 1, _ => rfl
  | 2, _ => rfl⟩
theorem owns_new3 (w : World) (t : TypeId) (a b c : Value) {B : Nat} (hB : B <= w.heap.size) : (w.alloc (.cells #[a, b, c] t)).ownsRow B t 1 (sC (some ⟨w.heap.size, 0, none⟩) 3 3) 3 [a, b, c] :=
 ⟨rfl, .inr ⟨_, 3, #[a, b, c], rfl, hB, heap_alloc_new w _, oM, by unfold maxLen; omega, rfl, rfl⟩⟩
def segS (f t m : Int) (cs : List Chg) : BA := if segB f t m cs then sealS (numsS (segN f t m cs)) else ⟨#[]⟩
theorem numbers_c (f t m : Int) (A : Option Addr) (c B : Nat) (cs : List Chg) (w : World) (h : Chs w B A cs) (hB : B <= w.heap.size) (hn : cs.length <= 8) (hok : segB f t m cs = true) :
 Calls Tryz.prog 207 #[.agg #[ii f, ii t, ii m, sC A cs.length c]] w fun e w' => ∃ A' c', e = .returned (sC A' (segN f t m cs).length c') /\ Row w' w'.heap.size A' (segN f t m cs).length (intAt (segN f t m cs)) /\ Nx w w' := by
 obtain ⟨i0, hi0, hz0, hz1, hz2⟩ := info_parts info_int
 have HV := qh (segV_map hok)
 clear hok
 go_enter func207, ntmps207
 go_wp2_with fail
 have b0 := Box.new w 122 #[ii f, ii t, ii m, sC A cs.length c]
 have hx0 := (Nx.refl w).alloc (.cells #[ii f, ii t, ii m, sC A cs.length c] 122)
 have hsz : (w.alloc (.cells #[ii f, ii t, ii m, sC A cs.length c] 122)).heap.size = w.heap.size + 1 := by simp
 have hw0 := owns_new3 (w.alloc (.cells #[ii f, ii t, ii m, sC A cs.length c] 122)) 3 (ii f) (ii t) (ii m) nle
 have hn0 := (Nx.refl (w.alloc (.cells #[ii f, ii t, ii m, sC A cs.length c] 122))).alloc (.cells #[ii f, ii t, ii m] 3)
 generalize w.alloc (.cells #[ii f, ii t, ii m, sC A cs.length c] 122) = W at *
 rw [hsz] at hw0
 have Hsz := qh hsz
 clear hsz
 go_loopw [3, 16] (fun s i wr => ∃ (k : Nat) (v : Value), k <= cs.length /\ i = ii k /\ v = s /\ wr.ownsRow W.heap.size 3 1 v (3 + 3 * k) (segV f t m (cs.take k)) /\ Nx W wr) (fun _ i _ => cs.length - (intOf i).toNat)
 case atStart => exact ⟨0, _, Nat.zero_le _, rfl, rfl, by rw [Hsz.out]; exact hw0, hn0⟩
 case round =>
  obtain ⟨k, v, hk, rfl, rfl, hw, hnx⟩ := hrel
  clear hw0 hn0
  by_cases hlt : k < cs.length
  . obtain ⟨b, off, rfl, hb, k0, k1, k2⟩ := (h.below (hx0.trans hnx) hB).at_ hlt
    obtain ⟨⟨q0, q1, q2⟩, Hq⟩ := nM (cs.getD k chZ)
    rw [Hq.out] at k0 k1 k2
    have hw1 := (hw.alloc (.cells #[ii q0, ii q1, ii q2] 192)).alloc (.cells #[ii q0, ii q1, ii q2] 3)
    have ho1 := Own.new3 (wr.alloc (.cells #[ii q0, ii q1, ii q2] 192)) 3 (ii q0) (ii q1) (ii q2)
    have hx1 := (hnx.alloc (.cells #[ii q0, ii q1, ii q2] 192)).alloc (.cells #[ii q0, ii q1, ii q2] 3)
    simp only [World.size_alloc] at ho1
    have HN : Hid (∀ j u, [Value.int .i64 q0, ii q1, ii q2][j]? = some u -> ((wr.alloc (.cells #[ii q0, ii q1, ii q2] 192)).alloc (.cells #[ii q0, ii q1, ii q2] 3)).cell? ((Addr.mk (wr.heap.size + 1) 0 none).add j) = some u) := qh (fun j u hj => by
     rcases j with _ | _ | _ | j
     . injection hj with hj; subst hj; exact (ho1.cell (i := 0) oM)
     . injection hj with hj; subst hj; exact (ho1.cell (i := 1) oM)
     . injection hj with hj; subst hj; exact (ho1.cell (i := 2) oM)
     . simp at hj)
    have HO : Hid (∀ u ∈ [Value.int .i64 q0, ii q1, ii q2], u.oneCell' = true) := qh (fun u hu => by simp only [List.mem_cons, List.not_mem_nil, or_false] at hu; rcases hu with rfl | rfl | rfl <;> rfl)
    go_wp2_with (at_builtin; refine wpList_append_own _ rfl _ _ 23 rfl W.heap.size 3 i0 _ 1 8 underlying23 hi0 hz0 hz1 hz2 rfl oM v (3 + 3 * k) _ rfl hw1 ⟨wr.heap.size + 1, 0, none⟩ 3 3 [ii q0, ii q1, ii q2] rfl rfl HN.out HO.out ?c3 ?c4 ?c5 ?_)
    case c3 => unfold maxLen; omega
    case c4 => omega
    case c5 => have := hx1.size; simp only [World.size_alloc] at this ⊢; omega
    intro v2 w2 hw2 hg2 _
    have hx2 : Nx W w2 := Below.grown hx1 hg2 hx1.size (fun k hk => (hw1.lt k hk).1)
    go_wp2
    go_roundw
    case rel =>
     refine ⟨k + 1, _, oM, by go_num, rfl, ?_, hx2⟩
     rw [segV_succ f t m cs k hlt Hq.out]
     exact hw2
    case measure => simp [intOf]; omega
  . obtain rfl : k = cs.length := oM
    rw [List.take_length, HV.out] at hw
    have hl := segN_len f t m cs
    rw [<- hl] at hw
    obtain ⟨A', c', rfl, hrow⟩ := owns_row hw oM
    clear hl hw
    go_wp2
    go_ret
    exact ⟨A', c', rfl, hrow, hx0.trans hnx⟩
theorem l02Text_c (f t m : Int) (A : Option Addr) (c B : Nat) (cs : List Chg) (w : World) (h : Chs w B A cs) (hB : B <= w.heap.size) (hn : cs.length <= 8) (hok : segB f t m cs = true) :
 Calls Tryz.prog 163 #[.agg #[ii f, ii t, ii m, sC A cs.length c]] w fun e w' => e = .returned (.string (sealS (numsS (segN f t m cs)))) /\ Nx w w' := by
 obtain ⟨i0, hi0, hz0, hz1, hz2⟩ := info_parts info_int
 have HV := qh (segV_map hok)
 have h6 := segN_all hok
 clear hok
 go_enter func163, ntmps163
 go_wp2_with fail
 have b0 := Box.new w 122 #[ii f, ii t, ii m, sC A cs.length c]
 have hx0 := (Nx.refl w).alloc (.cells #[ii f, ii t, ii m, sC A cs.length c] 122)
 have hsz : (w.alloc (.cells #[ii f, ii t, ii m, sC A cs.length c] 122)).heap.size = w.heap.size + 1 := by simp
 have hw0 := owns_new3 (w.alloc (.cells #[ii f, ii t, ii m, sC A cs.length c] 122)) 3 (ii f) (ii t) (ii m) nle
 have hn0 := (Nx.refl (w.alloc (.cells #[ii f, ii t, ii m, sC A cs.length c] 122))).alloc (.cells #[ii f, ii t, ii m] 3)
 generalize w.alloc (.cells #[ii f, ii t, ii m, sC A cs.length c] 122) = W at *
 rw [hsz] at hw0
 have Hsz := qh hsz
 clear hsz
 go_loopw [3, 4] (fun s i wr => ∃ (k : Nat) (v : Value), k <= cs.length /\ i = ii k /\ v = s /\ wr.ownsRow W.heap.size 3 1 v (3 + 3 * k) (segV f t m (cs.take k)) /\ Nx W wr) (fun _ i _ => cs.length - (intOf i).toNat)
 case atStart => exact ⟨0, _, Nat.zero_le _, rfl, rfl, by rw [Hsz.out]; exact hw0, hn0⟩
 case round =>
  obtain ⟨k, v, hk, rfl, rfl, hw, hnx⟩ := hrel
  obtain ⟨_, _, _, c3⟩ := (b0.nx hnx).d4
  clear hw0 hn0
  by_cases hlt : k < cs.length
  . obtain ⟨b, off, rfl, hb, k0, k1, k2⟩ := (h.below (hx0.trans hnx) hB).at_ hlt
    obtain ⟨⟨q0, q1, q2⟩, Hq⟩ := nM (cs.getD k chZ)
    rw [Hq.out] at k0 k1 k2
    have hbw : b < W.heap.size := by have := hx0.size; omega
    have hbv : w.heap.size < W.heap.size := b0.lt
    go_wp2_with fail
    refine wp_lexA (kf9 (kf9 (ff :: true :: true :: ff :: []))) (fun w' => CC w' w.heap.size 3 (sC (some ⟨b, off, none⟩) cs.length c) /\ CC w' b (off + k * 3) (ii q0) /\ CC w' b (off + k * 3 + 1) (ii q1) /\ CC w' b (off + k * 3 + 2) (ii q2)) (by exact ⟨c3, k0, k1, k2⟩) ?_
    refine hLr ?_
    refine hLc fun K hK => ?_
    go_simp
    have hn1 : Nx wr.drew (wr.drew.alloc (.cells #[ii q0, ii q1, ii q2] 3)) := (Nx.refl _).alloc _
    change K _ (wr.drew.alloc _)
    have ho1 := Own.new3 wr.drew 3 (ii q0) (ii q1) (ii q2)
    have hw1 := (hw.drew).alloc (.cells #[ii q0, ii q1, ii q2] 3)
    have hx1 := hnx.drew.trans hn1
    refine hK.out _ _ (by exact ⟨(hx1.of_two hnx ⟨w.heap.size, 3, none⟩ hbv).trans c3, (hx1.of_two hnx ⟨b, off + k * 3, none⟩ hbw).trans k0, (hx1.of_two hnx ⟨b, off + k * 3 + 1, none⟩ hbw).trans k1, (hx1.of_two hnx ⟨b, off + k * 3 + 2, none⟩ hbw).trans k2⟩) ?_
    generalize wr.drew.alloc (.cells #[ii q0, ii q1, ii q2] 3) = wz at *
    clear hK K
    refine nZ ?_
    refine hLc fun K hK => ?_
    refine wp_append_own wz _ _ 23 rfl W.heap.size 3 i0 _ 1 8 underlying23 hi0 hz0 hz1 hz2 rfl oM v (3 + 3 * k) _ rfl hw1 ⟨wr.heap.size, 0, none⟩ 3 3 [ii q0, ii q1, ii q2] rfl rfl (fun j u hj => ?_) (fun u hu => ?_) (by unfold maxLen; omega) oM (by have := hx1.size; omega) ?_
    . rcases j with _ | _ | _ | j
      . injection hj with hj; subst hj; exact (ho1.cell (i := 0) oM)
      . injection hj with hj; subst hj; exact (ho1.cell (i := 1) oM)
      . injection hj with hj; subst hj; exact (ho1.cell (i := 2) oM)
      . simp at hj
    . simp only [List.mem_cons, List.not_mem_nil, or_false] at hu; rcases hu with rfl | rfl | rfl <;> rfl
    intro v2 w2 hw2 hg2 _
    have hx2 : Nx W w2 := Below.grown hx1 hg2 hx1.size (fun k hk => (hw1.lt k hk).1)
    refine hK.out _ _ (by exact ⟨(hx2.of_two hnx ⟨w.heap.size, 3, none⟩ hbv).trans c3, (hx2.of_two hnx ⟨b, off + k * 3, none⟩ hbw).trans k0, (hx2.of_two hnx ⟨b, off + k * 3 + 1, none⟩ hbw).trans k1, (hx2.of_two hnx ⟨b, off + k * 3 + 2, none⟩ hbw).trans k2⟩) ?_
    clear hK K
    refine nZ ?_
    refine hLr ?_
    refine HL.done ?_
    go_wp2
    go_roundw
    case rel =>
     refine ⟨k + 1, _, oM, by go_num, rfl, ?_, hx2⟩
     rw [segV_succ f t m cs k hlt Hq.out]
     exact hw2
    case measure => simp [intOf]; omega
  . obtain rfl : k = cs.length := oM
    rw [List.take_length, HV.out] at hw
    have hl := segN_len f t m cs
    rw [<- hl] at hw
    obtain ⟨A', c', rfl, hrow⟩ := owns_row hw oM
    have Hl := qh hl
    clear hl hw
    go_wp2_with fail
    refine (l02Join_c A' c' _ (segN f t m cs) _ hrow nle h6 (by have := Hl.out; omega)).mono ?_
    rintro e w1 ⟨rfl, hnx1⟩
    go_wp2_with fail
    refine (l02Seal_c (numsS (segN f t m cs)) _ (by rw [numsS_size]; have := Hl.out; omega)).mono ?_
    rintro e w2 ⟨rfl, hnx2⟩
    go_wp2
    go_ret
    exact ⟨rfl, ((hx0.trans hnx).trans hnx1).trans hnx2⟩
theorem segTextM_c (f t m : Int) (A : Option Addr) (c B : Nat) (cs : List Chg) (w : World) (h : Chs w B A cs) (hB : B <= w.heap.size) (hf : segB f t m cs = true) :
 Calls Tryz.prog 156 #[.agg #[ii f, ii t, ii m, sC A cs.length c]] w fun e w' => e = .returned (.string (sealS (numsS (segN f t m cs)))) /\ Nx w w' := by
 have HF := qh hf
 have hl8 := chsB_len (segB_yes hf).2.2.2.2
 clear hf
 have b0 := Box.new w 122 #[ii f, ii t, ii m, sC A cs.length c]
 have hx0 := (Nx.refl w).alloc (.cells #[ii f, ii t, ii m, sC A cs.length c] 122)
 go_enter func156, ntmps156
 go_wp2_with fail
 generalize w.alloc (.cells #[ii f, ii t, ii m, sC A cs.length c] 122) = W at *
 obtain ⟨c0, c1, c2, c3⟩ := b0.d4
 refine (numbers_c f t m A c B cs _ (h.below hx0 hB) (ntr hB hx0.size) hl8 HF.out).mono ?_
 rintro e w2 ⟨A', c', rfl, hrow, hnx2⟩
 have Hl := qh (segN_len f t m cs)
 go_wp2_with fail
 refine (numbersText_c A' c' _ (segN f t m cs) _ hrow nle (segN_all HF.out) (by have := Hl.out; omega) (by have := Hl.out; omega)).mono ?_
 rintro e w3 ⟨rfl, hnx3⟩
 go_wp2_with fail
 refine (sealed_c (numsS (segN f t m cs)) _ (by rw [numsS_size]; have := Hl.out; omega)).mono ?_
 rintro e w4 ⟨rfl, hnx4⟩
 have hxz := ((hx0.trans hnx2).trans hnx3).trans hnx4
 go_wp2
 go_ret
 exact ⟨rfl, hxz⟩
def chN3 (ns : List Nat) (j : Nat) : Chg := ((ns.getD (3 + 3 * j) 0 : Nat), (ns.getD (3 + 3 * j + 1) 0 : Nat), (ns.getD (3 + 3 * j + 2) 0 : Nat))
def chOf (ns : List Nat) (k : Nat) : List Chg := (List.range k).map (chN3 ns)
theorem chOf_len (ns : List Nat) (k : Nat) : (chOf ns k).length = k := by simp [chOf]
theorem chOf_succ (ns : List Nat) (k : Nat) : chOf ns (k + 1) = chOf ns k ++ [chN3 ns k] := by simp [chOf, List.range_succ]
def chsV (cs : List Chg) : List Value := cs.flatMap chV
theorem chsV_succ (ns : List Nat) (k : Nat) : chsV (chOf ns (k + 1)) = chsV (chOf ns k) ++ chV (chN3 ns k) := by
 unfold chsV; rw [chOf_succ, List.flatMap_append]; simp
theorem chsV_get : ∀ (cs : List Chg) (i : Nat), i < cs.length * 3 -> (chsV cs)[i]? = some (chAt cs i)
 | [], i, h => by simp at h
 | c :: cs, i, h => by
   show (chV c ++ chsV cs)[i]? = _
   by_cases hi : i < 3
   . rw [List.getElem?_append_left (by simpa [chV] using hi)]
     match i, hi with
     | 0, _ => rfl
     | 1, _ => rfl
     | 2, _ => rfl
   . rw [List.getElem?_append_right (by simpa [chV] using hi)]
     have hl : (chV c).length = 3 := rfl
     rw [hl, chsV_get cs (i - 3) (by simp at h; omega)]
     have e1 : (i - 3) % 3 = i % 3 := oM
     have e2 : i / 3 = (i - 3) / 3 + 1 := oM
     unfold chAt
     rw [e1, e2, List.getD_cons_succ]
abbrev G4 := Nat × Nat × Nat × List Chg
def sgOf (ns : List Nat) : G4 := (ns.getD 0 0, ns.getD 1 0, ns.getD 2 0, chOf ns (ns.length / 3 - 1))
def okLen (ns : List Nat) : Bool := decide (3 <= ns.length) && decide (ns.length % 3 = 0)
def g4B (q : G4) : Bool := segB q.1 q.2.1 q.2.2.1 q.2.2.2
def rdG (t : BA) : Option G4 := (rdN t).bind fun ns => if okLen ns && g4B (sgOf ns) then some (sgOf ns) else none
def zG : G4 := (0, 0, 0, [])
theorem rdG_none {t : BA} (h : rdN t = none) : rdG t = none := by unfold rdG; rw [h]; rfl
theorem rdG_len {t : BA} {ns : List Nat} (h : rdN t = some ns) (hl : okLen ns = false) : rdG t = none := by unfold rdG; rw [h]; simp [hl]
theorem rdG_no {t : BA} {ns : List Nat} (h : rdN t = some ns) (hl : g4B (sgOf ns) = false) : rdG t = none := by unfold rdG; rw [h]; simp [hl]
theorem rdG_yes {t : BA} {ns : List Nat} (h : rdN t = some ns) (hl : okLen ns = true) (hb : g4B (sgOf ns) = true) : rdG t = some (sgOf ns) := by unfold rdG; rw [h]; simp [hl, hb]
theorem owns_slC {w : World} {B : Nat} {cs : List Chg} {v : Value} (h : w.ownsRow B 192 3 v cs.length (chsV cs)) :
 ∃ A c, v = sC A cs.length c /\ Sl w B A 192 (cs.length * 3) (chAt cs) := by
 rcases h.2 with ⟨rfl, h0⟩ | ⟨g, cap, cur, rfl, hb, hg, hnc, _, hcs, htk⟩
 . exact ⟨none, 0, by rw [h0], fun hn => oM⟩
 . refine ⟨_, cap, rfl, Sl.own ⟨cur, hg, by have := Nat.mul_le_mul_right 3 hnc; omega, fun i hi => ?_⟩ hb⟩
   have h1 : (cur.toList.take (cs.length * 3))[i]? = some (chAt cs i) := by rw [htk]; exact chsV_get cs i hi
   rw [List.getElem?_take_of_lt hi] at h1
   simpa using h1
theorem owns_nx3 {w w' : World} {B : Nat} {e : TypeId} {v : Value} {n : Nat} {xs : List Value} (h : w.ownsRow B e 3 v n xs) (hb : Nx w w') : w'.ownsRow B e 3 v n xs := by
 refine h.kept (row := none) ⟨hb.os, hb.tape, hb.output, hb.size, fun i hi _ => hb.block i hi⟩ ?_
 cases hv : v.ownBlock with
 | none => exact .inl rfl
 | some g => exact .inr (by simp)
theorem owns_ne {w : World} {B g : Nat} {v : Value} {n : Nat} {xs : List Value} {cs : Array Value} (h : w.ownsRow B 192 3 v n xs) (hb : Box w g 122 cs) : some g ≠ v.ownBlock := by
 intro he
 rcases h.2 with ⟨rfl, _⟩ | ⟨g', cap, cur, rfl, _, hg, _⟩
 . simp [Value.ownBlock] at he
 . obtain rfl : g = g' := by simpa [Value.ownBlock] using he
   unfold Box at hb
   rw [hg] at hb
   injection hb with hb
   injection hb with _ hb
   exact absurd hb dC
theorem owns_far {w : World} {B g : Nat} {v u : Value} {n i : Nat} {xs : List Value} {cs : Array Value} (h : w.ownsRow B 192 3 v n xs) (hb : Box w g 122 cs) : (w.setCell ⟨g, i, none⟩ u).ownsRow B 192 3 v n xs :=
 h.kept (row := some g) ⟨rfl, rfl, rfl, by simp [World.setCell], fun k hk hn => Below.heap_setCell _ _ _ _ (fun e => hn (by rw [e]))⟩ (.inr (fun e => owns_ne h hb e.symm))
theorem info_chg : (Tryz.prog.info? 192).map (fun i => (i.zero, i.size, i.bytes)) = some (some (.agg #[ii 0, ii 0, ii 0]), 3, 24) := by kernel_rfl
theorem news3 (w : World) (t : TypeId) (x y z : Value) : ∀ j u, [x, y, z][j]? = some u -> (w.alloc (.cells #[x, y, z] t)).cell? ((Addr.mk w.heap.size 0 none).add j) = some u := fun j u hj => by
 have ho := Own.new3 w t x y z
 rcases j with _ | _ | _ | j
 . injection hj with hj; subst hj; exact (ho.cell (i := 0) oM)
 . injection hj with hj; subst hj; exact (ho.cell (i := 1) oM)
 . injection hj with hj; subst hj; exact (ho.cell (i := 2) oM)
 . simp at hj
theorem rdN_len {t : BA} {ns : List Nat} (ht : t.size <= 65536) (h : rdN t = some ns) : ns.length <= 65536 := by
 unfold rdN at h
 cases ho : opensB t with
 | false => rw [ho] at h; cases h
 | true =>
   rw [ho] at h
   unfold numsO at h
   by_cases hc : (bodyOf t).data.toList.length % 6 = 0 /\ digL (bodyOf t).data.toList = true
   . simp only [if_true, if_pos hc] at h
     injection h with h
     subst h
     rw [numsOf_len, <- ba_size]
     have := bodyOf_size t
     omega
   . simp only [if_true, if_neg hc] at h; cases h
theorem Row.at0 {w : World} {B m : Nat} {A : Option Addr} {f : Nat -> Value} (h : Row w B A m f) (hm : 0 < m) : ∃ b off, A = some ⟨b, off, none⟩ /\ b < B /\ ∀ i, i < m -> w.cell? ⟨b, off + i, none⟩ = some (f i) := h hm
def SegLoop (w1 : World) (gG : Nat) (n0 n1 n2 : Nat) (ns : List Nat) (i : Value) (wr : World) : Prop :=
 ∃ (k p : Nat) (v : Value), p <= ns.length /\ Hid (p = 3 + 3 * k) /\ i = ii p /\ Box wr gG 122 #[ii n0, ii n1, ii n2, v] /\ wr.ownsRow w1.heap.size 192 3 v k (chsV (chOf ns k)) /\ Nx w1 wr
theorem Sl.put4 {u : World} {lo g : Nat} {A : Option Addr} {t : TypeId} {m : Nat} {f : Nat -> Value} (h : Sl u lo A t m f) (hg : g < lo) (v0 v1 v2 v3 : Value) : Sl (put4 u g v0 v1 v2 v3) lo A t m f :=
 (((h.far (p := ⟨g, 0, none⟩) hg v0).far (p := ⟨g, 1, none⟩) hg v1).far (p := ⟨g, 2, none⟩) hg v2).far (p := ⟨g, 3, none⟩) hg v3
def RetST (w : World) (o : Option G4) (bad good : Value) (e : Ending) (w' : World) : Prop :=
 Nx w w' /\ (o = none -> e = .returned (.tuple #[.agg #[ii 0, ii 0, ii 0, nsl], bad])) /\
 ∀ q, o = some q -> ∃ A c, e = .returned (.tuple #[.agg #[ii q.1, ii q.2.1, ii q.2.2.1, sC A q.2.2.2.length c], good]) /\ Sl w' w.heap.size A 192 (q.2.2.2.length * 3) (chAt q.2.2.2)
theorem RetST.no {w w' : World} {o : Option G4} {bad good : Value} (h : o = none) (hn : Nx w w') : RetST w o bad good (.returned (.tuple #[.agg #[ii 0, ii 0, ii 0, nsl], bad])) w' :=
 ⟨hn, fun _ => rfl, fun q h2 => by rw [h] at h2; cases h2⟩
theorem RetST.yes {w w' : World} {o : Option G4} {bad good : Value} {ns : List Nat} {n0 n1 n2 k c : Nat} {A : Option Addr} (h : o = some (sgOf ns)) (hq : sgOf ns = (n0, n1, n2, chOf ns k)) (hs : Sl w' w.heap.size A 192 ((chOf ns k).length * 3) (chAt (chOf ns k))) (hn : Nx w w') :
 RetST w o bad good (.returned (.tuple #[.agg #[ii n0, ii n1, ii n2, sC A (chOf ns k).length c], good])) w' :=
 ⟨hn, (fun h2 => by rw [h] at h2; cases h2), fun q h2 => by rw [h, hq] at h2; injection h2 with h2; subst h2; exact ⟨A, c, rfl, hs⟩⟩
theorem okLen_yes {ns : List Nat} (h1 : 3 <= ns.length) (h2 : ns.length % 3 = 0) : okLen ns = true := by unfold okLen; simp [h1, h2]
theorem okLen_no {ns : List Nat} (h : ¬ (3 <= ns.length /\ ns.length % 3 = 0)) : okLen ns = false := by
 unfold okLen
 cases h1 : decide (3 <= ns.length) with
 | false => rfl
 | true =>
   have h1' : 3 <= ns.length := by simpa using h1
   rw [decide_eq_false (fun h2 => h ⟨h1', h2⟩)]; rfl
theorem segOfText_c (t : BA) (w : World) (a0 a1 : Addr) (ht : t.size <= 65536) (hE : Er w a0 a1) : Calls Tryz.prog 199 #[.string t] w (RetST w (rdG t) (.iface 290 (.pointer (some a0))) .nilIface) := by
 obtain ⟨i0, hi0, hz0, hz1, hz2⟩ := info_parts info_chg
 have e0 := hE.1
 have hg0 : 0 < w.heap.size := World.block_lt_of_cell? w _ e0
 have b0 := Box.new w 122 #[ii 0, ii 0, ii 0, nsl]
 have hx0 := (Nx.refl w).alloc (.cells #[ii 0, ii 0, ii 0, nsl] 122)
 go_enter func199, ntmps199
 go_wp2_with fail
 generalize w.alloc (.cells #[ii 0, ii 0, ii 0, nsl] 122) = W at *
 refine (sealedNumbers_c t _ a0 a1 ht (hE.nx hx0)).mono ?_
 rintro e w1 ⟨hnx1, h1, h2⟩
 have b1 := b0.nx hnx1
 have hxw := hx0.trans hnx1
 clear b0 hx0 hnx1
 cases hr : rdN t with
 | none =>
   obtain rfl := h1 hr
   have HF := qh (rdG_none hr)
   clear h1 h2 hr
   obtain ⟨c0, c1, c2, c3⟩ := b1.d4
   have f0 := b1.frozen 0
   have f1 := b1.frozen 1
   have f2 := b1.frozen 2
   have f3 := b1.frozen 3
   go_wp2
   have q := (put4_box b1 (ii 0) (ii 0) (ii 0) (nsl))
   have hnf := (put4_nx hxw (Nat.le_refl w.heap.size) (ii 0) (ii 0) (ii 0) (nsl))
   change bodyPost _ _ _ _ _ (put4 w1 w.heap.size (ii 0) (ii 0) (ii 0) (nsl))
   change Box (put4 w1 w.heap.size (ii 0) (ii 0) (ii 0) (nsl)) _ _ _ at q
   generalize put4 w1 w.heap.size (ii 0) (ii 0) (ii 0) (nsl) = Wf at *
   obtain ⟨g0, g1, g2, g3⟩ := q.d4
   exact bodyPost_ret (v := .tuple #[.agg #[ii 0, ii 0, ii 0, nsl], .iface 290 (.pointer (some a0))]) (by simp [results, results199, go_sem, g0, g1, g2, g3]) rfl (RetST.no HF.out hnf)
 | some ns =>
   obtain ⟨A, c, rfl, hrow, _⟩ := h2 ns hr
   have HN := qh hr
   clear h1 h2 hr
   have HNL := qh (rdN_len ht HN.out)
   by_cases hl : 3 <= ns.length /\ ns.length % 3 = 0
   case neg =>
    have HF := qh (rdG_len HN.out (okLen_no hl))
    by_cases hz : ns.length = 0
    . have he0 : ((ns.length : Int) == 0) = true := beq_iff_eq.2 oM
      clear hz hl
      obtain ⟨c0, c1, c2, c3⟩ := b1.d4
      have f0 := b1.frozen 0
      have f1 := b1.frozen 1
      have f2 := b1.frozen 2
      have f3 := b1.frozen 3
      have hlt := b1.lt
      go_wp2_with fail
      refine wp_lexA (kf2 (true :: ff :: [])) (fun w' => CC w' 0 0 (.iface 290 (.pointer (some a0)))) (by exact ((hxw.drew).cell (p := ⟨0, 0, none⟩) hg0).trans e0) ?_
      refine hLr ?_
      refine hLc fun K hK => ?_
      go_simp
      refine hK.out _ _ (by exact (put4_nx hxw.drew (Nat.le_refl w.heap.size) (ii 0) (ii 0) (ii 0) (nsl)).cell (p := ⟨0, 0, none⟩) hg0 |>.trans e0) ?_
      clear hK K
      refine nZ ?_
      refine hLr ?_
      refine HL.done ?_
      clear c0 c1 c2 c3 f0 f1 f2 f3
      go_wp2
      have q := (put4_box b1 (ii 0) (ii 0) (ii 0) (nsl))
      have hnf := (put4_nx hxw (Nat.le_refl w.heap.size) (ii 0) (ii 0) (ii 0) (nsl)).drew
      change bodyPost _ _ _ _ _ (World.drew (put4 w1 w.heap.size (ii 0) (ii 0) (ii 0) (nsl)))
      change Box (World.drew (put4 w1 w.heap.size (ii 0) (ii 0) (ii 0) (nsl))) _ _ _ at q
      generalize World.drew (put4 w1 w.heap.size (ii 0) (ii 0) (ii 0) (nsl)) = Wf at *
      obtain ⟨g0, g1, g2, g3⟩ := q.d4
      exact bodyPost_ret (v := .tuple #[.agg #[ii 0, ii 0, ii 0, nsl], .iface 290 (.pointer (some a0))]) (by simp [results, results199, go_sem, g0, g1, g2, g3]) rfl (RetST.no HF.out hnf)
    have he0 : ((ns.length : Int) == 0) = false := beq_eq_false_iff_ne.2 oM
    have he1 : ((ns.length : Int) % 3 != 0) = true := by rw [bne_iff_ne]; omega
    clear hz hl
    obtain ⟨c0, c1, c2, c3⟩ := b1.d4
    have f0 := b1.frozen 0
    have f1 := b1.frozen 1
    have f2 := b1.frozen 2
    have f3 := b1.frozen 3
    have hlt := b1.lt
    go_wp2_with fail
    refine wp_lexA (kf2 (true :: ff :: [])) (fun w' => CC w' 0 0 (.iface 290 (.pointer (some a0)))) (by exact ((hxw.drew).cell (p := ⟨0, 0, none⟩) hg0).trans e0) ?_
    refine hLr ?_
    refine hLc fun K hK => ?_
    go_simp
    refine hK.out _ _ (by exact (put4_nx hxw.drew (Nat.le_refl w.heap.size) (ii 0) (ii 0) (ii 0) (nsl)).cell (p := ⟨0, 0, none⟩) hg0 |>.trans e0) ?_
    clear hK K
    refine nZ ?_
    refine hLr ?_
    refine HL.done ?_
    clear c0 c1 c2 c3 f0 f1 f2 f3
    go_wp2
    have q := (put4_box b1 (ii 0) (ii 0) (ii 0) (nsl))
    have hnf := (put4_nx hxw (Nat.le_refl w.heap.size) (ii 0) (ii 0) (ii 0) (nsl)).drew
    change bodyPost _ _ _ _ _ (World.drew (put4 w1 w.heap.size (ii 0) (ii 0) (ii 0) (nsl)))
    change Box (World.drew (put4 w1 w.heap.size (ii 0) (ii 0) (ii 0) (nsl))) _ _ _ at q
    generalize World.drew (put4 w1 w.heap.size (ii 0) (ii 0) (ii 0) (nsl)) = Wf at *
    obtain ⟨g0, g1, g2, g3⟩ := q.d4
    exact bodyPost_ret (v := .tuple #[.agg #[ii 0, ii 0, ii 0, nsl], .iface 290 (.pointer (some a0))]) (by simp [results, results199, go_sem, g0, g1, g2, g3]) rfl (RetST.no HF.out hnf)
   case pos =>
    obtain ⟨hl3, hlm⟩ := hl
    have he0 : ((ns.length : Int) == 0) = false := beq_eq_false_iff_ne.2 oM
    have he1 : ((ns.length : Int) % 3 != 0) = false := by rw [bne_eq_false_iff_eq]; omega
    obtain ⟨N, hN⟩ : ∃ N, ns.length = 3 + 3 * N := ⟨ns.length / 3 - 1, oM⟩
    have HNN := qh hN
    have HOL := qh (okLen_yes hl3 hlm)
    clear hN hlm
    obtain ⟨b, off, rfl, hb, hcl⟩ := hrow.at0 oM
    obtain ⟨n0, Hn0⟩ := nM (ns.getD 0 0)
    obtain ⟨n1, Hn1⟩ := nM (ns.getD 1 0)
    obtain ⟨n2, Hn2⟩ := nM (ns.getD 2 0)
    have k0 : w1.cell? ⟨b, off, none⟩ = some (ii n0) := by have := hcl 0 oM; unfold intAt at this; rw [Hn0.out] at this; exact this
    have k1 : w1.cell? ⟨b, off + 1, none⟩ = some (ii n1) := by have := hcl 1 oM; unfold intAt at this; rw [Hn1.out] at this; exact this
    have k2 : w1.cell? ⟨b, off + 2, none⟩ = some (ii n2) := by have := hcl 2 oM; unfold intAt at this; rw [Hn2.out] at this; exact this
    have HCL := qh hcl
    have hl0 : (0 : Int) < (ns.length : Int) := oM
    have hl1 : (1 : Int) < (ns.length : Int) := oM
    have hl2 : (2 : Int) < (ns.length : Int) := oM
    have hm0 : 0 < ns.length := oM
    have hm1 : 1 < ns.length := oM
    have hm2 : 2 < ns.length := oM
    clear hcl hrow
    go_wp2_with fail
    refine wp_lexA (kf9 (ff :: true :: true :: [])) (fun w' => CC w' b off (ii n0) /\ CC w' b (off + 1) (ii n1) /\ CC w' b (off + 2) (ii n2)) (by exact ⟨k0, k1, k2⟩) ?_
    refine hLr ?_
    refine hLc fun K hK => ?_
    go_simp
    refine hK.out _ _ (by exact ⟨(((Nx.refl w1).alloc _).cell (p := ⟨b, off, none⟩) hb).trans k0, (((Nx.refl w1).alloc _).cell (p := ⟨b, off + 1, none⟩) hb).trans k1, (((Nx.refl w1).alloc _).cell (p := ⟨b, off + 2, none⟩) hb).trans k2⟩) ?_
    clear hK K
    refine nZ ?_
    refine hLc fun K hK => ?_
    go_simp
    refine hK.out _ _ (by exact ⟨(((Nx.refl w1).alloc _).cell (p := ⟨b, off, none⟩) hb).trans k0, (((Nx.refl w1).alloc _).cell (p := ⟨b, off + 1, none⟩) hb).trans k1, (((Nx.refl w1).alloc _).cell (p := ⟨b, off + 2, none⟩) hb).trans k2⟩) ?_
    clear hK K
    refine nZ ?_
    refine HL.done ?_
    clear k0 k1 k2 hl0 hl1 hl2 hm0 hm1 hm2
    have bg0 := Box.new w1 122 #[ii n0, ii n1, ii n2, nsl]
    have hx3 := ((Nx.refl w1).alloc (.cells #[ii n0, ii n1, ii n2, nsl] 122)).drew
    change Exit.then _ _ _ _ (World.drew (w1.alloc (.cells #[ii n0, ii n1, ii n2, nsl] 122)))
    change Box (World.drew (w1.alloc (.cells #[ii n0, ii n1, ii n2, nsl] 122))) _ _ _ at bg0
    generalize World.drew (w1.alloc (.cells #[ii n0, ii n1, ii n2, nsl] 122)) = w3 at *
    go_wp2
    go_loopw [7] (fun i wr => SegLoop w1 w1.heap.size n0 n1 n2 ns i wr) (fun i _ => ns.length - (intOf i).toNat)
    case atStart => exact ⟨0, 3, nsl, hl3, qh rfl, rfl, bg0, ⟨rfl, .inl ⟨rfl, rfl⟩⟩, hx3⟩
    case round =>
     obtain ⟨k, p, v, hp, HPp, rfl, bg, hw, hnx⟩ := hrel
     clear bg0 hx3
     by_cases hlt : p < ns.length
     . have hp3 : p + 3 <= ns.length := by have := HPp.out; have := HNN.out; omega
       have hn9 : ns.length <= 65536 := HNL.out
       obtain ⟨q0, Hq0⟩ := nM (ns.getD p 0)
       obtain ⟨q1, Hq1⟩ := nM (ns.getD (p + 1) 0)
       obtain ⟨q2, Hq2⟩ := nM (ns.getD (p + 2) 0)
       have m0 : w1.cell? ⟨b, off + p, none⟩ = some (ii q0) := by have := HCL.out p oM; unfold intAt at this; rw [Hq0.out] at this; exact this
       have m1 : w1.cell? ⟨b, off + (p + 1), none⟩ = some (ii q1) := by have := HCL.out (p + 1) oM; unfold intAt at this; rw [Hq1.out] at this; exact this
       have m2 : w1.cell? ⟨b, off + (p + 2), none⟩ = some (ii q2) := by have := HCL.out (p + 2) oM; unfold intAt at this; rw [Hq2.out] at this; exact this
       have HQ := qh (show chV (chN3 ns k) = [ii q0, ii q1, ii q2] by
        unfold chV chN3; rw [<- HPp.out, Hq0.out, Hq1.out, Hq2.out])
       have HO : Hid (∀ u ∈ [Value.int .i64 (q0 : Int), ii q1, ii q2], u.oneCell' = true) := qh (fun u hu => by simp only [List.mem_cons, List.not_mem_nil, or_false] at hu; rcases hu with rfl | rfl | rfl <;> rfl)
       have hbw := hb
       have hgG : w1.heap.size <= w1.heap.size := Nat.le_refl _
       have hk9 : k <= 100000 := by have := HPp.out; have := HNL.out; omega
       obtain ⟨_, _, _, c3⟩ := bg.d4
       have hw1a : (p : Int) + 1 < (ns.length : Int) := oM
       have hw1b : (p : Int) + 2 < (ns.length : Int) := oM
       have hw1c : (p : Int) < (ns.length : Int) := oM
       have hw2a : ((p : Int) + 1).toNat = p + 1 := oM
       have hw2b : ((p : Int) + 2).toNat = p + 2 := oM
       have hw3a : (0 : Int) <= (p : Int) + 1 := oM
       have hw3b : (0 : Int) <= (p : Int) + 2 := oM
       have hw4a : IntKind.i64.wrap ((p : Int) + 1) = (p : Int) + 1 := IntWalk.i64_in _ (by have := HNL.out; omega)
       have hw4b : IntKind.i64.wrap ((p : Int) + 2) = (p : Int) + 2 := IntWalk.i64_in _ (by have := HNL.out; omega)
       go_wp2_with fail
       refine wp_planA (.t 0 (.t 2 (.t 3 (.t 4 (.t 5 (.t 6 (.t 7 (.t 8 (.t 9 (.t 10 (.t 11 (.t 12 (.t 13 (.t 14 (.t 15 (.t 16 (.b 1 (.c 17 (.c 18 (.t 19 (.c 20 .e)))) 17 (.c 1 (.c 18 (.t 19 (.c 20 .e))))))))))))))))))))) (fun w' => CC w' b (off + p) (ii q0) /\ CC w' b (off + (p + 1)) (ii q1) /\ CC w' b (off + (p + 2)) (ii q2)) (by exact ⟨(hnx.drew.cell (p := ⟨b, off + p, none⟩) hbw).trans m0, (hnx.drew.cell (p := ⟨b, off + (p + 1), none⟩) hbw).trans m1, (hnx.drew.cell (p := ⟨b, off + (p + 2), none⟩) hbw).trans m2⟩) ?_
       simp only [psOf, List.getD_cons_zero, List.getD_cons_succ]
       refine hPr ?_
       refine HP.both ?_ ?_
       . have hx1 := hnx.drew.alloc (.cells #[ii q0, ii q1, ii q2] 192)
         have hw1 := (owns_nx3 hw (Nx.refl wr).drew).alloc (.cells #[ii q0, ii q1, ii q2] 192)
         have bz := (bg.nx (Nx.refl wr).drew).alloc (.cells #[ii q0, ii q1, ii q2] 192)
         have HNW := qh (news3 wr.drew 192 (ii q0) (ii q1) (ii q2))
         have hlt := bg.lt
         refine cSt fun K hK => ?_
         go_simp
         refine hK.out _ _ (by exact ⟨(hnx.drew.cell (p := ⟨b, off + p, none⟩) hbw).trans m0, (hnx.drew.cell (p := ⟨b, off + (p + 1), none⟩) hbw).trans m1, (hnx.drew.cell (p := ⟨b, off + (p + 2), none⟩) hbw).trans m2⟩) ?_
         clear hK K
         refine nZ ?_
         refine hPc fun K hK => ?_
         go_simp
         refine hK.out _ _ (by exact ⟨(hx1.cell (p := ⟨b, off + p, none⟩) hbw).trans m0, (hx1.cell (p := ⟨b, off + (p + 1), none⟩) hbw).trans m1, (hx1.cell (p := ⟨b, off + (p + 2), none⟩) hbw).trans m2⟩) ?_
         clear hK K
         refine nZ ?_
         change HP _ _ _ _ _ _ (wr.drew.alloc (.cells #[ii q0, ii q1, ii q2] 192))
         generalize wr.drew.alloc (.cells #[ii q0, ii q1, ii q2] 192) = wz at *
         refine hPc fun K hK => ?_
         refine wp_append_own wz _ _ 120 rfl w1.heap.size 192 i0 _ 3 24 underlying120 hi0 hz0 hz1 hz2 rfl oM v k _ rfl hw1 ⟨wr.heap.size, 0, none⟩ 1 1 [ii q0, ii q1, ii q2] rfl rfl HNW.out HO.out (by unfold maxLen; omega) oM hx1.size ?_
         intro v2 w2 hw2 hg2 _
         obtain ⟨g2, cp2, rfl, _, _⟩ := hw2.form oM
         have hx2 : Nx w1 w2 := Below.grown hx1 hg2 hx1.size (fun k hk => (hw1.lt k hk).1)
         have bg2 : Box w2 w1.heap.size 122 #[ii n0, ii n1, ii n2, v] := bz.grown hg2 (owns_ne hw1 bz)
         refine hK.out _ _ (by exact ⟨(hx2.cell (p := ⟨b, off + p, none⟩) hbw).trans m0, (hx2.cell (p := ⟨b, off + (p + 1), none⟩) hbw).trans m1, (hx2.cell (p := ⟨b, off + (p + 2), none⟩) hbw).trans m2⟩) ?_
         clear hK K
         refine nZ ?_
         refine hPr ?_
         obtain ⟨_, _, _, d3⟩ := bg2.d4
         have f3 := bg2.frozen 3
         refine hPc fun K hK => ?_
         go_simp
         have hx3 := hx2.setCell (p := ⟨w1.heap.size, 3, none⟩) hgG (sC (some ⟨g2, 0, none⟩) (k + 1) cp2)
         refine hK.out _ _ (by exact ⟨(hx3.cell (p := ⟨b, off + p, none⟩) hbw).trans m0, (hx3.cell (p := ⟨b, off + (p + 1), none⟩) hbw).trans m1, (hx3.cell (p := ⟨b, off + (p + 2), none⟩) hbw).trans m2⟩) ?_
         clear hK K
         refine nZ ?_
         refine HP.done ?_
         clear hw1a hw1b hw1c hw2a hw2b hw3a hw3b hw4a hw4b
         have bg3 := bg2.set 3 (sC (some ⟨g2, 0, none⟩) (k + 1) cp2)
         have hw3 := owns_far (u := (sC (some ⟨g2, 0, none⟩) (k + 1) cp2)) (i := 3) hw2 bg2
         clear d3 f3 c3
         go_wp2
         go_roundw
         case rel =>
          refine ⟨k + 1, p + 3, _, oM, qh (by have := HPp.out; omega), by go_num, bg3, ?_, hx3⟩
          rw [chsV_succ, HQ.out]; exact hw3
         case measure => simp [intOf]; omega
       . have hx1 := hnx.drew.alloc (.cells #[ii q0, ii q1, ii q2] 192)
         have hw1 := (owns_nx3 hw (Nx.refl wr).drew).alloc (.cells #[ii q0, ii q1, ii q2] 192)
         have bz := (bg.nx (Nx.refl wr).drew).alloc (.cells #[ii q0, ii q1, ii q2] 192)
         have HNW := qh (news3 wr.drew 192 (ii q0) (ii q1) (ii q2))
         have hlt := bg.lt
         refine cSt fun K hK => ?_
         go_simp
         refine hK.out _ _ (by exact ⟨(hx1.cell (p := ⟨b, off + p, none⟩) hbw).trans m0, (hx1.cell (p := ⟨b, off + (p + 1), none⟩) hbw).trans m1, (hx1.cell (p := ⟨b, off + (p + 2), none⟩) hbw).trans m2⟩) ?_
         clear hK K
         refine nZ ?_
         refine hPc fun K hK => ?_
         go_simp
         refine hK.out _ _ (by exact ⟨(hx1.cell (p := ⟨b, off + p, none⟩) hbw).trans m0, (hx1.cell (p := ⟨b, off + (p + 1), none⟩) hbw).trans m1, (hx1.cell (p := ⟨b, off + (p + 2), none⟩) hbw).trans m2⟩) ?_
         clear hK K
         refine nZ ?_
         change HP _ _ _ _ _ _ (wr.drew.alloc (.cells #[ii q0, ii q1, ii q2] 192))
         generalize wr.drew.alloc (.cells #[ii q0, ii q1, ii q2] 192) = wz at *
         refine hPc fun K hK => ?_
         refine wp_append_own wz _ _ 120 rfl w1.heap.size 192 i0 _ 3 24 underlying120 hi0 hz0 hz1 hz2 rfl oM v k _ rfl hw1 ⟨wr.heap.size, 0, none⟩ 1 1 [ii q0, ii q1, ii q2] rfl rfl HNW.out HO.out (by unfold maxLen; omega) oM hx1.size ?_
         intro v2 w2 hw2 hg2 _
         obtain ⟨g2, cp2, rfl, _, _⟩ := hw2.form oM
         have hx2 : Nx w1 w2 := Below.grown hx1 hg2 hx1.size (fun k hk => (hw1.lt k hk).1)
         have bg2 : Box w2 w1.heap.size 122 #[ii n0, ii n1, ii n2, v] := bz.grown hg2 (owns_ne hw1 bz)
         refine hK.out _ _ (by exact ⟨(hx2.cell (p := ⟨b, off + p, none⟩) hbw).trans m0, (hx2.cell (p := ⟨b, off + (p + 1), none⟩) hbw).trans m1, (hx2.cell (p := ⟨b, off + (p + 2), none⟩) hbw).trans m2⟩) ?_
         clear hK K
         refine nZ ?_
         refine hPr ?_
         obtain ⟨_, _, _, d3⟩ := bg2.d4
         have f3 := bg2.frozen 3
         refine hPc fun K hK => ?_
         go_simp
         have hx3 := hx2.setCell (p := ⟨w1.heap.size, 3, none⟩) hgG (sC (some ⟨g2, 0, none⟩) (k + 1) cp2)
         refine hK.out _ _ (by exact ⟨(hx3.cell (p := ⟨b, off + p, none⟩) hbw).trans m0, (hx3.cell (p := ⟨b, off + (p + 1), none⟩) hbw).trans m1, (hx3.cell (p := ⟨b, off + (p + 2), none⟩) hbw).trans m2⟩) ?_
         clear hK K
         refine nZ ?_
         refine HP.done ?_
         clear hw1a hw1b hw1c hw2a hw2b hw3a hw3b hw4a hw4b
         have bg3 := bg2.set 3 (sC (some ⟨g2, 0, none⟩) (k + 1) cp2)
         have hw3 := owns_far (u := (sC (some ⟨g2, 0, none⟩) (k + 1) cp2)) (i := 3) hw2 bg2
         clear d3 f3 c3
         go_wp2
         go_roundw
         case rel =>
          refine ⟨k + 1, p + 3, _, oM, qh (by have := HPp.out; omega), by go_num, bg3, ?_, hx3⟩
          rw [chsV_succ, HQ.out]; exact hw3
         case measure => simp [intOf]; omega
     . obtain rfl : p = ns.length := oM
       have hkN : k = ns.length / 3 - 1 := by have := HPp.out; omega
       have hlen := chOf_len ns k
       have hw' : wr.ownsRow w1.heap.size 192 3 v (chOf ns k).length (chsV (chOf ns k)) := by rw [hlen]; exact hw
       obtain ⟨A2, cp9, rfl, hSl⟩ := owns_slC hw'
       have HQ4 := qh (show sgOf ns = (n0, n1, n2, chOf ns k) by unfold sgOf; rw [Hn0.out, Hn1.out, Hn2.out, <- hkN])
       have hcl9 : (chOf ns k).length <= 1048576 := by rw [hlen]; have := HNL.out; omega
       have bw := b1.nx hnx
       have hxr := hxw.trans hnx
       have hgl : w.heap.size < w1.heap.size := b1.lt
       clear hw hw' hlen hkN
       obtain ⟨x0, x1, x2, x3⟩ := bg.d4
       go_wp2_with fail
       refine (segRight_c n0 n1 n2 A2 cp9 _ (chOf ns k) _ hSl.row nle hcl9).mono ?_
       rintro e w5 ⟨rfl, hnx5⟩
       have b5 := bw.nx hnx5
       have bg5 := bg.nx hnx5
       have hx5 := hxr.trans hnx5
       have hS5 := hSl.nx hnx5
       clear x0 x1 x2 x3
       obtain ⟨x0, x1, x2, x3⟩ := bg5.d4
       cases hf : segB n0 n1 n2 (chOf ns k) with
       | false =>
         have HF := qh (rdG_no HN.out (by unfold g4B; rw [HQ4.out]; exact hf))
         clear hf
         obtain ⟨c0, c1, c2, c3⟩ := b5.d4
         have f0 := b5.frozen 0
         have f1 := b5.frozen 1
         have f2 := b5.frozen 2
         have f3 := b5.frozen 3
         have hlt := b5.lt
         go_wp2_with fail
         refine wp_lexA (kf2 (true :: ff :: [])) (fun w' => CC w' 0 0 (.iface 290 (.pointer (some a0)))) (by exact ((hx5.drew).cell (p := ⟨0, 0, none⟩) hg0).trans e0) ?_
         refine hLr ?_
         refine hLc fun K hK => ?_
         go_simp
         refine hK.out _ _ (by exact (put4_nx hx5.drew (Nat.le_refl w.heap.size) (ii 0) (ii 0) (ii 0) (nsl)).cell (p := ⟨0, 0, none⟩) hg0 |>.trans e0) ?_
         clear hK K
         refine nZ ?_
         refine hLr ?_
         refine HL.done ?_
         clear c0 c1 c2 c3 f0 f1 f2 f3
         go_wp2
         have q := (put4_box b5 (ii 0) (ii 0) (ii 0) (nsl))
         have hnf := (put4_nx hx5 (Nat.le_refl w.heap.size) (ii 0) (ii 0) (ii 0) (nsl)).drew
         change bodyPost _ _ _ _ _ (World.drew (put4 w5 w.heap.size (ii 0) (ii 0) (ii 0) (nsl)))
         change Box (World.drew (put4 w5 w.heap.size (ii 0) (ii 0) (ii 0) (nsl))) _ _ _ at q
         generalize World.drew (put4 w5 w.heap.size (ii 0) (ii 0) (ii 0) (nsl)) = Wf at *
         obtain ⟨g0, g1, g2, g3⟩ := q.d4
         exact bodyPost_ret (v := .tuple #[.agg #[ii 0, ii 0, ii 0, nsl], .iface 290 (.pointer (some a0))]) (by simp [results, results199, go_sem, g0, g1, g2, g3]) rfl (RetST.no HF.out hnf)
       | true =>
         have HF := qh (rdG_yes HN.out HOL.out (by unfold g4B; rw [HQ4.out]; exact hf))
         clear hf
         obtain ⟨c0, c1, c2, c3⟩ := b5.d4
         have f0 := b5.frozen 0
         have f1 := b5.frozen 1
         have f2 := b5.frozen 2
         have f3 := b5.frozen 3
         go_wp2
         have q := (put4_box b5 (ii n0) (ii n1) (ii n2) (sC A2 (chOf ns k).length cp9))
         have hnf := (put4_nx hx5 (Nat.le_refl w.heap.size) (ii n0) (ii n1) (ii n2) (sC A2 (chOf ns k).length cp9))
         have hsf := (hS5.put4 hgl (ii n0) (ii n1) (ii n2) (sC A2 (chOf ns k).length cp9))
         change Sl (put4 w5 w.heap.size (ii n0) (ii n1) (ii n2) (sC A2 (chOf ns k).length cp9)) _ _ _ _ _ at hsf
         change bodyPost _ _ _ _ _ (put4 w5 w.heap.size (ii n0) (ii n1) (ii n2) (sC A2 (chOf ns k).length cp9))
         change Box (put4 w5 w.heap.size (ii n0) (ii n1) (ii n2) (sC A2 (chOf ns k).length cp9)) _ _ _ at q
         generalize put4 w5 w.heap.size (ii n0) (ii n1) (ii n2) (sC A2 (chOf ns k).length cp9) = Wf at *
         obtain ⟨g0, g1, g2, g3⟩ := q.d4
         exact bodyPost_ret (v := .tuple #[.agg #[ii n0, ii n1, ii n2, sC A2 (chOf ns k).length cp9], .nilIface]) (by simp [results, results199, go_sem, g0, g1, g2, g3]) rfl (RetST.yes HF.out HQ4.out (hsf.low oM) hnf)
def gR (q : G4) : SgR := ⟨q.1, q.2.1, q.2.2.1, none, 0, q.2.2.2⟩
def ldG (ss : List BA) (ws : List (Int × BA)) (x : Int) : Option G4 := rdG (readP ss ws x.toNat)
def ldS (ss : List BA) (ws : List (Int × BA)) (x : Int) : SgR := ((ldG ss ws x).map gR).getD sgZ
def oneN : Option (List Nat) -> Option Int
 | some [x] => some (x : Int)
 | _ => none
def ldI (ss : List BA) (ws : List (Int × BA)) (j : Nat) : Option Int := oneN (rdN (readP ss ws (2 + j)))
def ldX (ss : List BA) (ws : List (Int × BA)) (j : Nat) : Int := (ldI ss ws j).getD 0
def zVl : Vl := ⟨0, 0, 0, 0, none, 0, [], none, 0, [], none, 0, [], none, 0, []⟩
def vlU (u : U6) (gs : List SgR) (im : List Int) : Vl := ⟨u.1, u.2.1, u.2.2.1, u.2.2.2.1, none, 0, u.2.2.2.2.1, none, 0, u.2.2.2.2.2, none, 0, gs, none, 0, im⟩
def ldOk (ss : List BA) (ws : List (Int × BA)) (u : U6) : Bool := (u.2.2.2.2.1.all fun x => (ldG ss ws x).isSome) && (List.range 8).all fun j => (ldI ss ws j).isSome
def ldW (ss : List BA) (ws : List (Int × BA)) (u : U6) : Vl := vlU u (u.2.2.2.2.1.map (ldS ss ws)) ((List.range 8).map (ldX ss ws))
def ldV (ss : List BA) (ws : List (Int × BA)) : Vl × Int :=
 match newU (rdU (readP ss ws 0)) (rdU (readP ss ws 1)) with
 | none => (zVl, 19)
 | some (u, _) => if ldOk ss ws u && (ldW ss ws u).ok then (ldW ss ws u, 0) else (zVl, 10)
def ldA (ss : List BA) (ws : List (Int × BA)) : Vl × Int := if diskB ss ws then ldV ss ws else (zVl, 1)
theorem ldA_bad {ss : List BA} {ws : List (Int × BA)} (h : diskB ss ws = false) : ldA ss ws = (zVl, 1) := by unfold ldA; rw [h]; rfl
theorem ldA_yes {ss : List BA} {ws : List (Int × BA)} (h : diskB ss ws = true) : ldA ss ws = ldV ss ws := by unfold ldA; rw [h]; rfl
theorem ldV_none {ss : List BA} {ws : List (Int × BA)} (h : newU (rdU (readP ss ws 0)) (rdU (readP ss ws 1)) = none) : ldV ss ws = (zVl, 19) := by unfold ldV; rw [h]
theorem ldV_some {ss : List BA} {ws : List (Int × BA)} {u : U6} {s : Int} (h : newU (rdU (readP ss ws 0)) (rdU (readP ss ws 1)) = some (u, s)) :
 ldV ss ws = if ldOk ss ws u && (ldW ss ws u).ok then (ldW ss ws u, 0) else (zVl, 10) := by unfold ldV; rw [h]
theorem ldV_seg {ss : List BA} {ws : List (Int × BA)} {u : U6} {s : Int} {k : Nat} (h : newU (rdU (readP ss ws 0)) (rdU (readP ss ws 1)) = some (u, s)) (hk : k < u.2.2.2.2.1.length) (hg : ldG ss ws (u.2.2.2.2.1.getD k 0) = none) : ldV ss ws = (zVl, 10) := by
 rw [ldV_some h]
 have : (u.2.2.2.2.1.all fun x => (ldG ss ws x).isSome) = false := List.all_eq_false.2 ⟨u.2.2.2.2.1.getD k 0, by rw [gdE, List.getElem?_eq_getElem hk]; exact List.getElem_mem hk, by rw [hg]; simp⟩
 unfold ldOk; rw [this]; rfl
theorem ldV_img {ss : List BA} {ws : List (Int × BA)} {u : U6} {s : Int} {j : Nat} (h : newU (rdU (readP ss ws 0)) (rdU (readP ss ws 1)) = some (u, s)) (hj : j < 8) (hg : ldI ss ws j = none) : ldV ss ws = (zVl, 10) := by
 rw [ldV_some h]
 have : ((List.range 8).all fun j => (ldI ss ws j).isSome) = false := List.all_eq_false.2 ⟨j, by simpa using hj, by rw [hg]; simp⟩
 unfold ldOk; rw [this]; simp
theorem ldV_wrong {ss : List BA} {ws : List (Int × BA)} {u : U6} {s : Int} (h : newU (rdU (readP ss ws 0)) (rdU (readP ss ws 1)) = some (u, s)) (hv : (ldW ss ws u).ok = false) : ldV ss ws = (zVl, 10) := by
 rw [ldV_some h, hv]; simp
theorem ldV_yes {ss : List BA} {ws : List (Int × BA)} {u : U6} {s : Int} (h : newU (rdU (readP ss ws 0)) (rdU (readP ss ws 1)) = some (u, s)) (ho : ldOk ss ws u = true) (hv : (ldW ss ws u).ok = true) : ldV ss ws = (ldW ss ws u, 0) := by
 rw [ldV_some h, ho, hv]; rfl
structure GsTo (ss : List BA) (ws : List (Int × BA)) (xs : List Int) (k : Nat) (gs : List SgR) : Prop where
 len : gs.length = k
 ok : ∀ j, j < k -> (ldG ss ws (xs.getD j 0)).isSome = true
 v : gs.map SgR.v = (xs.take k).map fun x => (ldS ss ws x).v
theorem GsTo.nil (ss : List BA) (ws : List (Int × BA)) (xs : List Int) : GsTo ss ws xs 0 [] := ⟨rfl, fun j h => absurd h oM, rfl⟩
theorem GsTo.snoc {ss : List BA} {ws : List (Int × BA)} {xs : List Int} {k : Nat} {gs : List SgR} {q : G4} (h : GsTo ss ws xs k gs) (hk : k < xs.length) (hq : ldG ss ws (xs.getD k 0) = some q) (A : Option Addr) (c : Nat) :
 GsTo ss ws xs (k + 1) (gs ++ [⟨q.1, q.2.1, q.2.2.1, A, c, q.2.2.2⟩]) := by
 refine ⟨by rw [List.length_append, h.len]; rfl, fun j hj => ?_, ?_⟩
 . rcases Nat.lt_or_ge j k with hl | hl
   . exact h.ok j hl
   . obtain rfl : j = k := oM
     rw [hq]; rfl
 . have e : xs[k] = xs.getD k 0 := by rw [gdE, List.getElem?_eq_getElem hk]; rfl
   rw [List.map_append, h.v, List.take_succ_eq_append_getElem hk, List.map_append]
   congr 1
   show [_] = [_]
   congr 1
   show _ = (ldS ss ws xs[k]).v
   unfold ldS
   rw [e, hq]; rfl
structure ImTo (ss : List BA) (ws : List (Int × BA)) (k : Nat) (im : List Int) : Prop where
 eq : im = (List.range k).map (ldX ss ws)
 ok : ∀ j, j < k -> (ldI ss ws j).isSome = true
theorem ImTo.nil (ss : List BA) (ws : List (Int × BA)) : ImTo ss ws 0 [] := ⟨rfl, fun j h => absurd h oM⟩
theorem ImTo.len {ss : List BA} {ws : List (Int × BA)} {k : Nat} {im : List Int} (h : ImTo ss ws k im) : im.length = k := by rw [h.eq]; simp
theorem ImTo.snoc {ss : List BA} {ws : List (Int × BA)} {k : Nat} {im : List Int} {x : Int} (h : ImTo ss ws k im) (hx : ldI ss ws k = some x) : ImTo ss ws (k + 1) (im ++ [x]) := by
 refine ⟨?_, fun j hj => ?_⟩
 . rw [List.range_succ, List.map_append, h.eq]
   congr 1
   show [x] = [ldX ss ws k]
   unfold ldX; rw [hx]; rfl
 . rcases Nat.lt_or_ge j k with hl | hl
   . exact h.ok j hl
   . obtain rfl : j = k := oM
     rw [hx]; rfl
theorem ldOk_of {ss : List BA} {ws : List (Int × BA)} {u : U6} {gs : List SgR} {im : List Int} (h : GsTo ss ws u.2.2.2.2.1 u.2.2.2.2.1.length gs) (h2 : ImTo ss ws 8 im) : ldOk ss ws u = true := by
 unfold ldOk
 rw [Bool.and_eq_true]
 refine ⟨List.all_eq_true.2 fun x hx => ?_, List.all_eq_true.2 fun j hj => h2.ok j (by simpa using hj)⟩
 obtain ⟨j, hj, e⟩ := List.getElem_of_mem hx
 have := h.ok j hj
 rw [gdE, List.getElem?_eq_getElem hj] at this
 simpa [e] using this
theorem ldW_s {ss : List BA} {ws : List (Int × BA)} {g b p t : Int} {xs : List Int} {ms : List Mrk} {gs : List SgR} {im : List Int} (h : GsTo ss ws xs xs.length gs) (h2 : ImTo ss ws 8 im) (A : Option Addr) (c : Nat) (A2 : Option Addr) (c2 : Nat) (A3 : Option Addr) (c3 : Nat) (A4 : Option Addr) (c4 : Nat) :
 VlS (ldW ss ws (g, b, p, t, xs, ms)) ⟨g, b, p, t, A, c, xs, A2, c2, ms, A3, c3, gs, A4, c4, im⟩ :=
 ⟨rfl, rfl, rfl, rfl, rfl, rfl, by
  show gs.map SgR.v = (xs.map (ldS ss ws)).map SgR.v
  rw [h.v, List.take_length, List.map_map]; rfl, h2.eq⟩
theorem rdN_le {t : BA} {ns : List Nat} (h : rdN t = some ns) : ns.length <= t.size := by
 unfold rdN at h
 cases ho : opensB t with
 | false => rw [ho] at h; cases h
 | true =>
   rw [ho] at h
   unfold numsO at h
   by_cases hc : (bodyOf t).data.toList.length % 6 = 0 /\ digL (bodyOf t).data.toList = true
   . simp only [if_true, if_pos hc] at h
     injection h with h
     subst h
     rw [numsOf_len, <- ba_size]
     have := bodyOf_size t
     omega
   . simp only [if_true, if_neg hc] at h; cases h
theorem rdG_short {t : BA} {q : G4} (h : rdG t = some q) : q.2.2.2.length <= t.size := by
 unfold rdG at h
 cases hr : rdN t with
 | none => rw [hr] at h; cases h
 | some ns =>
   rw [hr] at h
   have h2 : (if (okLen ns && g4B (sgOf ns)) = true then some (sgOf ns) else none) = some q := h
   have hn := rdN_le hr
   split at h2
   . injection h2 with h2
     subst h2
     show (chOf ns (ns.length / 3 - 1)).length <= _
     rw [chOf_len]; omega
   . cases h2
def Dj (gs : List SgR) : Prop := ∀ i j, i < gs.length -> j < gs.length -> i ≠ j -> 0 < (gs.getD i sgZ).cs.length -> 0 < (gs.getD j sgZ).cs.length -> (gs.getD i sgZ).A ≠ (gs.getD j sgZ).A
theorem Dj.nil : Dj [] := fun i j h => absurd h (by simp)
theorem Dj.snoc {w : World} {lo : Nat} {gs : List SgR} {g : SgR} {w' : World} (h : Dj gs) (hc : ∀ k, k < gs.length -> Sl w lo (gs.getD k sgZ).A 192 ((gs.getD k sgZ).cs.length * 3) (chAt (gs.getD k sgZ).cs)) (hg : Sl w' w.heap.size g.A 192 (g.cs.length * 3) (chAt g.cs)) : Dj (gs ++ [g]) := by
 have key : ∀ i, i < gs.length -> 0 < (gs.getD i sgZ).cs.length -> 0 < g.cs.length -> (gs.getD i sgZ).A ≠ g.A := fun i hi h1 h2 e => by
  obtain ⟨b, e1, _, ho⟩ := hc i hi oM
  obtain ⟨b', e2, hl, _⟩ := hg oM
  have := ho.lt
  rw [e1, e2] at e
  injection e with e
  injection e with e _ _
  omega
 intro i j hi hj hne h1 h2
 rw [List.length_append] at hi hj
 simp only [List.length_cons, List.length_nil] at hi hj
 by_cases ei : i < gs.length
 . rw [getD_app_lt gs g ei] at h1 ⊢
   by_cases ej : j < gs.length
   . rw [getD_app_lt gs g ej] at h2 ⊢
     exact h i j ei ej hne h1 h2
   . obtain rfl : j = gs.length := oM
     rw [getD_app] at h2 ⊢
     exact key i ei h1 h2
 . obtain rfl : i = gs.length := oM
   rw [getD_app] at h1 ⊢
   by_cases ej : j < gs.length
   . rw [getD_app_lt gs g ej] at h2 ⊢
     exact fun e => key j ej h2 h1 e.symm
   . omega
structure VlP (w : World) (lo mid hi : Nat) (V : Vl) : Prop where
 tab : Sr w lo mid V.A 3 V.xs.length (inAt V.xs)
 mks : Sr w lo mid V.A2 136 (V.ms.length * 2) (mrAt V.ms)
 row : Sr w mid hi V.A3 122 (V.gs.length * 4) (sgAt V.gs)
 chs : ∀ k, k < V.gs.length -> Sr w mid hi (V.gs.getD k sgZ).A 192 ((V.gs.getD k sgZ).cs.length * 3) (chAt (V.gs.getD k sgZ).cs)
 img : Sr w mid hi V.A4 3 V.im.length (inAt V.im)
 dj : Dj V.gs
 cap : V.xs.length <= V.c
 cap3 : V.gs.length <= V.c3
 le : lo <= mid
 le2 : mid <= hi
theorem VlP.nx {w w' : World} {lo mid hi : Nat} {V : Vl} (h : VlP w lo mid hi V) (hb : Nx w w') : VlP w' lo mid hi V := ⟨h.tab.nx hb, h.mks.nx hb, h.row.nx hb, fun k hk => (h.chs k hk).nx hb, h.img.nx hb, h.dj, h.cap, h.cap3, h.le, h.le2⟩
theorem Sr.low {w : World} {lo lo' hi m : Nat} {A : Option Addr} {t : TypeId} {f : Nat -> Value} (h : Sr w lo hi A t m f) (hl : lo' <= lo) : Sr w lo' hi A t m f := fun hm => by
 obtain ⟨g, e, h1, h2, ho⟩ := h hm; exact ⟨g, e, oM, h2, ho⟩
theorem Sr.up {w : World} {lo hi hi' m : Nat} {A : Option Addr} {t : TypeId} {f : Nat -> Value} (h : Sr w lo hi A t m f) (hl : hi <= hi') : Sr w lo hi' A t m f := fun hm => by
 obtain ⟨g, e, h1, h2, ho⟩ := h hm; exact ⟨g, e, h1, oM, ho⟩
theorem VlP.own {w : World} {lo mid hi : Nat} {V : Vl} (h : VlP w lo mid hi V) : VlO w lo V :=
 ⟨h.tab.sl, h.mks.sl, ⟨(h.row.low h.le).sl, fun k hk => ((h.chs k hk).low h.le).sl⟩, (h.img.low h.le).sl, h.cap, h.cap3⟩
theorem VlP.low {w : World} {lo lo' mid hi : Nat} {V : Vl} (h : VlP w lo mid hi V) (hl : lo' <= lo) : VlP w lo' mid hi V := ⟨h.tab.low hl, h.mks.low hl, h.row, h.chs, h.img, h.dj, h.cap, h.cap3, by have := h.le; omega, h.le2⟩
theorem VlP.up {w : World} {lo mid hi hi' : Nat} {V : Vl} (h : VlP w lo mid hi V) (hl : hi <= hi') : VlP w lo mid hi' V := ⟨h.tab, h.mks, h.row.up hl, fun k hk => (h.chs k hk).up hl, h.img.up hl, h.dj, h.cap, h.cap3, h.le, by have := h.le2; omega⟩
theorem VlP.zero (w : World) {lo hi : Nat} (h : lo <= hi) : VlP w lo lo hi zVl := ⟨fun h => absurd h (by simp [zVl]), fun h => absurd h (by simp [zVl]), fun h => absurd h (by simp [zVl]), fun k h => absurd h (by simp [zVl]), fun h => absurd h (by simp [zVl]), Dj.nil, Nat.le_refl _, Nat.le_refl _, Nat.le_refl _, h⟩
def RetLd (w : World) (y : Vl × Int) (e : Ending) (w' : World) : Prop :=
 ∃ V' mid, e = .returned (.tuple #[V'.v, ii y.2]) /\ VlS y.1 V' /\ VlP w' w.heap.size mid w'.heap.size V' /\ Nx w w'
theorem VlS.refl (V : Vl) : VlS V V := ⟨rfl, rfl, rfl, rfl, rfl, rfl, rfl, rfl⟩
theorem ldV_size {ss : List BA} {ws : List (Int × BA)} (hD : diskB ss ws = true) : (ldV ss ws).1 = zVl \/ (VltY (ldV ss ws).1.g (ldV ss ws).1.b (ldV ss ws).1.p (ldV ss ws).1.t (ldV ss ws).1.xs (ldV ss ws).1.ms (ldV ss ws).1.gs (ldV ss ws).1.im /\ (ldV ss ws).2 = 0 /\ ∀ k, k < (ldV ss ws).1.gs.length -> ((ldV ss ws).1.gs.getD k sgZ).cs.length <= 300) := by
 cases hu : newU (rdU (readP ss ws 0)) (rdU (readP ss ws 1)) with
 | none => rw [ldV_none hu]; exact .inl rfl
 | some us =>
   obtain ⟨u, s⟩ := us
   rw [ldV_some hu]
   split
   . rename_i hc
     rw [Bool.and_eq_true] at hc
     refine .inr ⟨vltB_yes hc.2, rfl, fun k hk => ?_⟩
     have hl : (ldW ss ws u).gs.length = u.2.2.2.2.1.length := by simp [ldW, vlU]
     have hk' : k < u.2.2.2.2.1.length := by rw [<- hl]; exact hk
     have e : (ldW ss ws u).gs.getD k sgZ = ldS ss ws u.2.2.2.2.1[k] := by
      show (u.2.2.2.2.1.map (ldS ss ws)).getD k sgZ = _
      rw [gdE, List.getElem?_map, List.getElem?_eq_getElem hk']; rfl
     show ((ldW ss ws u).gs.getD k sgZ).cs.length <= 300
     rw [e]
     unfold ldS
     cases hg : ldG ss ws u.2.2.2.2.1[k] with
     | none => exact Nat.zero_le _
     | some q =>
       have h1 := rdG_short hg
       have h2 := readP_size hD u.2.2.2.2.1[k].toNat
       show q.2.2.2.length <= 300
       omega
   . exact .inl rfl
theorem ssum_bound {gs : List SgR} {m : Nat} (h : ∀ k, k < gs.length -> (gs.getD k sgZ).cs.length <= m) : ∀ k, k <= gs.length -> ssum gs k <= k * m
 | 0, _ => by rw [ssum_zero]; omega
 | k + 1, hk => by
   have h1 := ssum_bound h k oM
   have h2 := h k oM
   rw [ssum_succ oM, Nat.succ_mul]; omega
structure VlB (V : Vl) : Prop where
 xs : V.xs.length <= 20
 ms : V.ms.length <= 4
 gs : V.gs.length <= 20
 cs : ∀ k, k < V.gs.length -> (V.gs.getD k sgZ).cs.length <= 300
 im : V.im.length <= 8
 sum : ssum V.gs V.gs.length <= 6000
 mka : AllM V.ms
theorem VlB.zero : VlB zVl := ⟨by simp [zVl], by simp [zVl], by simp [zVl], fun k h => absurd h (by simp [zVl]), by simp [zVl], Nat.zero_le _, fun k => by simp [zVl, mrZ]⟩
theorem VlB.n {V : Vl} (h : VlB V) : VlN V 1048576 := ⟨by have := h.xs; omega, by have := h.ms; omega, by have := h.gs; omega, fun k hk => by have := h.cs k hk; omega, by have := h.im; omega⟩
theorem VlB.s {V V' : Vl} (h : VlB V) (hs : VlS V V') : VlB V' :=
 have hc : ∀ k, k < V'.gs.length -> (V'.gs.getD k sgZ).cs.length <= 300 := v_cs hs.gs h.cs
 ⟨by rw [hs.xs]; exact h.xs, by rw [hs.ms]; exact h.ms, by rw [hs.len]; exact h.gs, hc, by rw [hs.im]; exact h.im, by
  have h1 := ssum_bound hc _ nle
  have h2 := h.gs
  rw [<- hs.len] at h2
  have := Nat.mul_le_mul_right 300 h2
  omega, by rw [hs.ms]; exact h.mka⟩
theorem msB_all {ms : List Mrk} (h : msB ms = true) : AllM ms := fun k => by
 rcases Nat.lt_or_ge k ms.length with hk | hk
 . have h1 := (msB_yes h).2 k hk
   unfold okMk mkB nmB at h1
   simp only [Bool.and_eq_true] at h1
   have := inB_yes h1.1.1.1
   omega
 . rw [gdE, List.getElem?_eq_none hk]; simp [mrZ]
theorem ldV_b {ss : List BA} {ws : List (Int × BA)} (hD : diskB ss ws = true) : VlB (ldV ss ws).1 := by
 rcases ldV_size hD with h | ⟨hy, _, hc⟩
 . rw [h]; exact VlB.zero
 . obtain ⟨_, _, _, _, h5, h6⟩ := superB_yes hy.super
   have h1 := (tbB_yes h5).1
   have h2 := (msB_yes h6).1
   have h3 := hy.len
   have h4 := (contB_yes hy.cont).1
   refine ⟨h1, h2, oM, hc, oM, ?_, msB_all h6⟩
   have h7 := ssum_bound hc _ nle
   have := Nat.mul_le_mul_right 300 (show (ldV ss ws).1.gs.length <= 20 by omega)
   omega
theorem dig_ch (n : Nat) : (UInt8.ofNat (48 + n % 10)).toNat = 48 + n % 10 := by
 have : n % 10 < 10 := Nat.mod_lt _ dC
 simp only [UInt8.toNat_ofNat']
 omega
theorem digL_pad : ∀ k n, digL (pad k n) = true
 | 0, n => rfl
 | k + 1, n => by
   show digL (pad k (n / 10) ++ [UInt8.ofNat (48 + n % 10)]) = true
   have : n % 10 < 10 := Nat.mod_lt _ dC
   rw [digL_snoc, digL_pad k (n / 10)]
   unfold digC digI
   rw [dig_ch]
   simp
   omega
theorem valL_pad : ∀ k n, valL (pad k n) = n % 10 ^ k
 | 0, n => by show 0 = n % 1; omega
 | k + 1, n => by
   show valL (pad k (n / 10) ++ [UInt8.ofNat (48 + n % 10)]) = _
   rw [valL_snoc, valL_pad k (n / 10), dig_ch, show 10 ^ (k + 1) = 10 * 10 ^ k by rw [Nat.pow_succ]; omega, Nat.mod_mul]
   omega
theorem digL_app (a b : List UInt8) : digL (a ++ b) = (digL a && digL b) := by unfold digL; rw [List.all_append]
theorem digL_padAll : ∀ ns, digL (padAll ns) = true
 | [] => rfl
 | n :: ns => by
   show digL (pad 6 n ++ padAll ns) = true
   rw [digL_app, digL_pad, digL_padAll ns]; rfl
theorem chunk_padAll : ∀ (ns : List Nat) (j : Nat), j < ns.length -> chunk (padAll ns) j = pad 6 (ns.getD j 0)
 | [], j, h => by simp at h
 | n :: ns, 0, h => by
   show ((pad 6 n ++ padAll ns).drop (6 * 0)).take 6 = pad 6 n
   simp only [Nat.mul_zero, List.drop_zero]
   exact List.take_left' (pad_len 6 n)
 | n :: ns, j + 1, h => by
   show ((pad 6 n ++ padAll ns).drop (6 * (j + 1))).take 6 = pad 6 (ns.getD j 0)
   rw [<- chunk_padAll ns j (by simpa using h)]
   unfold chunk
   refine congrArg (List.take 6) ?_
   rw [show 6 * (j + 1) = (pad 6 n).length + 6 * j by rw [pad_len]; omega, List.drop_append, List.drop_eq_nil_of_le oM, Nat.add_sub_cancel_left, List.nil_append]
theorem numsO_padAll (ns : List Nat) (h : All6 ns) : numsO (padAll ns) = some ns := by
 have hl := padAll_len ns
 rw [numsO_yes (by rw [hl]; omega) (digL_padAll ns), hl, Nat.mul_div_cancel _ dC]
 congr 1
 unfold numsOf
 apply List.ext_getElem (by simp)
 intro j h1 h2
 have h3 := h j h2
 rw [List.getElem_map, List.getElem_range, chunk_padAll ns j h2, valL_pad, Nat.mod_eq_of_lt oM]
 rw [gdE, List.getElem?_eq_getElem h2]; rfl
theorem sumD_len (s : BA) : (sumD s).length = 3 := pad_len _ _
theorem sealS_list (s : BA) : (sealS s).data.toList = s.data.toList ++ sumD s := by unfold sealS; rw [ba_app]
theorem sealS_size (s : BA) : (sealS s).size = s.size + 3 := by rw [ba_size, sealS_list, List.length_append, sumD_len, <- ba_size]
theorem bodyOf_list (t : BA) : (bodyOf t).data.toList = t.data.toList.take (t.size - 3) := by
 unfold bodyOf
 rw [ByteArray.data_extract]
 simp
theorem ba_ext {a b : BA} (h : a.data.toList = b.data.toList) : a = b := by rw [ba_eq h]
theorem bodyOf_seal (s : BA) : bodyOf (sealS s) = s := by
 apply ba_ext
 rw [bodyOf_list, sealS_size, sealS_list, show s.size + 3 - 3 = s.size by omega]
 exact List.take_left' (ba_size s).symm
theorem opensB_seal (s : BA) : opensB (sealS s) = true := by
 rw [opensB_of (by rw [sealS_size]; omega)]
 unfold sealB
 rw [bodyOf_seal]
 exact beq_self_eq_true _
theorem rdN_seal (ns : List Nat) (h : All6 ns) : rdN (sealS (numsS ns)) = some ns := by
 rw [rdN_yes (opensB_seal _), bodyOf_seal]
 exact numsO_padAll ns h
theorem digL_digs : ∀ n : Nat, digL (digs n) = true := fun n => by
 induction n using Nat.strongRecOn with
 | ind n ih =>
   have h1 : ∀ k, k < 10 -> digL [UInt8.ofNat (48 + k)] = true := fun k hk => by
    have : k = 0 \/ k = 1 \/ k = 2 \/ k = 3 \/ k = 4 \/ k = 5 \/ k = 6 \/ k = 7 \/ k = 8 \/ k = 9 := oM
    rcases this with rfl | rfl | rfl | rfl | rfl | rfl | rfl | rfl | rfl | rfl <;> decide
   by_cases h : n < 10
   . rw [digs_lt h]; exact h1 n h
   . rw [digs_ge h, digL_app, ih (n / 10) oM, h1 _ (Nat.mod_lt _ dC)]; rfl
theorem valL_digs : ∀ n : Nat, valL (digs n) = n := fun n => by
 induction n using Nat.strongRecOn with
 | ind n ih =>
   have h1 : ∀ k, k < 10 -> (UInt8.ofNat (48 + k)).toNat = 48 + k := fun k hk => by simp only [UInt8.toNat_ofNat']; omega
   by_cases h : n < 10
   . rw [digs_lt h]
     have := valL_snoc [] (UInt8.ofNat (48 + n))
     rw [List.nil_append] at this
     rw [this, h1 n h]
     show 10 * valL [] + _ = n
     have e : valL [] = 0 := rfl
     rw [e]; omega
   . rw [digs_ge h, valL_snoc, ih (n / 10) oM, h1 _ (Nat.mod_lt _ dC)]; omega
theorem digs_head : ∀ n : Nat, 10 <= n -> (digs n).head? ≠ some 48 := fun n => by
 induction n using Nat.strongRecOn with
 | ind n ih =>
   intro hn
   rw [digs_ge oM]
   by_cases h : n / 10 < 10
   . rw [digs_lt h]
     intro e
     simp only [List.cons_append, List.nil_append, List.head?_cons, Option.some.injEq] at e
     have e2 := congrArg UInt8.toNat e
     simp only [UInt8.toNat_ofNat'] at e2
     have e3 : (48 : UInt8).toNat = 48 := rfl
     rw [e3] at e2
     omega
   . have := ih (n / 10) oM oM
     intro e
     rw [List.head?_append] at e
     cases hh : (digs (n / 10)).head? with
     | none => rw [List.head?_eq_none_iff] at hh; rw [digs_ge oM] at hh; simp at hh
     | some c => rw [hh] at e this; exact this e
theorem plainB_digs {n : Nat} (h : n <= 999999) : plainB (digs n) = true := by
 have hl := digs_len h
 rw [plainB_mk oM oM ?_]
 . exact digL_digs n
 . by_cases h10 : n < 10
   . rw [digs_lt h10]; exact .inl rfl
   . exact .inr (digs_head n oM)
theorem nmB_let {s : BA} (h : nmB s = true) {c : UInt8} (hc : c.toNat < 97) : c ∉ s.data.toList := fun hm => by
 obtain ⟨k, hk, e⟩ := List.getElem_of_mem hm
 unfold nmB at h
 rw [Bool.and_eq_true] at h
 have h2 := List.all_eq_true.1 h.2 k (by rw [List.mem_range, ba_size]; exact hk)
 unfold letB at h2
 rw [gdE, List.getElem?_eq_getElem hk, e, Bool.and_eq_true] at h2
 have := of_decide_eq_true h2.1
 simp only [Option.getD_some] at this
 omega
theorem mkW_list (m : Mrk) : (mkW m).data.toList = m.1.data.toList ++ 61 :: digs m.2.toNat := by
 unfold mkW
 rw [ba_app, ba_app]
 show m.1.data.toList ++ [61] ++ digs m.2.toNat = _
 simp
theorem okMk_mkB {ms : List Mrk} (h : msB ms = true) {m : Mrk} (hm : m ∈ ms) : nmB m.1 = true /\ 0 <= m.2 /\ m.2 <= 999999 := by
 obtain ⟨k, hk, e⟩ := List.getElem_of_mem hm
 have h1 := (msB_yes h).2 k hk
 unfold okMk mkB at h1
 rw [gdE, List.getElem?_eq_getElem hk, Option.getD_some, e] at h1
 simp only [Bool.and_eq_true] at h1
 exact ⟨h1.1.1, inB_yes h1.1.2⟩
theorem wordM_mkW {m : Mrk} (h1 : nmB m.1 = true) (h2 : 0 <= m.2 /\ m.2 <= 999999) : wordM (mkW m).data.toList = some m := by
 rw [mkW_list, wordM_hit (nmB_let h1 dC), if_pos (plainB_digs oM), valL_digs, baL_self, Int.toNat_of_nonneg h2.1]
theorem mkW_no {m : Mrk} (h1 : nmB m.1 = true) : 44 ∉ (mkW m).data.toList := by
 rw [mkW_list]
 intro h
 rcases List.mem_append.1 h with h | h
 . exact nmB_let h1 dC h
 . rcases List.mem_cons.1 h with h | h
   . exact absurd h dC
   . exact absurd (digL_mem (digL_digs _) h) dC
theorem marksL_wds : ∀ {ms : List Mrk}, (∀ m ∈ ms, nmB m.1 = true /\ 0 <= m.2 /\ m.2 <= 999999) -> marksL (ms.map fun m => (mkW m).data.toList) = some ms
 | [], _ => rfl
 | m :: ms, h => by
   have h1 := h m (by simp)
   rw [List.map_cons, marksL, wordM_mkW h1.1 h1.2, Option.bind_some, marksL_wds (fun q hq => h q (List.mem_cons_of_mem _ hq))]; rfl
theorem cutL_join : ∀ (xs : List (List UInt8)) (x : List UInt8), (∀ y ∈ x :: xs, (44 : UInt8) ∉ y) -> cutL 44 (Lib.join (x :: xs) [44]) = x :: xs
 | [], x, h => by rw [Lib.join_one, cutL_miss 44 x (h x (by simp))]
 | y :: xs, x, h => by
   have e : Lib.join (x :: y :: xs) [44] = x ++ 44 :: Lib.join (y :: xs) [44] := by
    rw [Lib.join_cons, Lib.join_cons]
    simp [Lib.joinTail]
   rw [e, cutL_hit 44 x _ (h x (by simp)), cutL_join xs y (fun z hz => h z (List.mem_cons_of_mem _ hz))]
theorem marksO_jn {ms : List Mrk} (h : msB ms = true) : marksO (jn (wds ms)).data.toList = some ms := by
 have hh := fun m (hm : m ∈ ms) => okMk_mkB h hm
 cases ms with
 | nil => rfl
 | cons m ms =>
   have e : (jn (wds (m :: ms))).data.toList = Lib.join ((mkW m).data.toList :: ms.map fun m => (mkW m).data.toList) [44] := by
    show Lib.join ((wds (m :: ms)).map (·.data.toList)) [44] = _
    unfold wds
    rw [List.map_map]; rfl
   have hn : ∀ y ∈ (mkW m).data.toList :: ms.map (fun m => (mkW m).data.toList), (44 : UInt8) ∉ y := fun y hy => by
    have hy' : y ∈ (m :: ms).map fun m => (mkW m).data.toList := hy
    obtain ⟨q, hq, rfl⟩ := List.mem_map.1 hy'
    exact mkW_no (hh q hq).1
   unfold marksO
   rw [e, if_neg, cutL_join _ _ hn]
   . exact marksL_wds (ms := m :: ms) hh
   . rw [Lib.join_cons, List.length_append, mkW_list]; simp
theorem toNats {xs : List Int} (h : ∀ x ∈ xs, 0 <= x) : intsN (xs.map Int.toNat) = xs := by
 unfold intsN
 rw [List.map_map]
 conv => rhs; rw [<- List.map_id xs]
 exact List.map_congr_left fun x hx => Int.toNat_of_nonneg (h x hx)
def supT (g b p t : Int) (xs : List Int) (ms : List Mrk) : BA := sealS (numsS (supN g b p t xs) ++ ⟨#[124]⟩ ++ jn (wds ms))
theorem rdU_back {g b p t : Int} {xs : List Int} {ms : List Mrk} (h : superB g b p t xs ms = true) : rdU (supT g b p t xs ms) = some (g, b, p, t, xs, ms) := by
 obtain ⟨h0, h1, h2, h3, h4, h5⟩ := superB_yes h
 have e : (bodyOf (supT g b p t xs ms)).data.toList = padAll (supN g b p t xs) ++ 124 :: (jn (wds ms)).data.toList := by
  unfold supT
  rw [bodyOf_seal, ba_app, ba_app]
  show padAll _ ++ [124] ++ _ = _
  simp
 have hno : (124 : UInt8) ∉ padAll (supN g b p t xs) := fun hm => absurd (digL_mem (digL_padAll _) hm) dC
 have hx : ∀ x ∈ xs, 0 <= x := fun x hx => by have := tbB_in h4 hx; omega
 rw [rdU_hit (t := supT g b p t xs ms) (opensB_seal _) hno e, partU_yes (numsO_padAll _ (supN_all h)) (by rw [supN_len]; omega) (marksO_jn h5)]
 have e0 : (supN g b p t xs).getD 0 0 = g.toNat := rfl
 have e1 : (supN g b p t xs).getD 1 0 = b.toNat := rfl
 have e2 : (supN g b p t xs).getD 2 0 = p.toNat := rfl
 have e3 : (supN g b p t xs).getD 3 0 = t.toNat := rfl
 have e4 : intsN ((supN g b p t xs).drop 4) = xs := toNats hx
 have f0 : ((g.toNat : Nat) : Int) = g := Int.toNat_of_nonneg oM
 have f1 : ((b.toNat : Nat) : Int) = b := Int.toNat_of_nonneg oM
 have f2 : ((p.toNat : Nat) : Int) = p := Int.toNat_of_nonneg oM
 have f3 : ((t.toNat : Nat) : Int) = t := Int.toNat_of_nonneg oM
 unfold supOf
 rw [e0, e1, e2, e3, e4, f0, f1, f2, f3, if_pos h]
theorem jn_step0 {ws : List BA} {s x : BA} (h : s = jn (ws.take 0)) (hk : 0 < ws.length) (hx : ws.getD 0 ByteArray.empty = x) : s ++ x = jn (ws.take (0 + 1)) := by
 rw [jn_take hk, List.take_zero, List.nil_append, jn_one, hx, h, List.take_zero, jn_nil]
 exact ba_ext_ (by rw [ba_app]; rfl)
where ba_ext_ {a b : BA} (h : a.data.toList = b.data.toList) : a = b := by rw [ba_eq h]
theorem jn_stepS {ws : List BA} {s x : BA} {k : Nat} (h : s = jn (ws.take k)) (hp : 0 < k) (hk : k < ws.length) (hx : ws.getD k ByteArray.empty = x) : s ++ ⟨#[44]⟩ ++ x = jn (ws.take (k + 1)) := by
 rw [jn_take hk, jn_snoc (by rw [List.length_take]; omega), hx, h]
theorem l00Join_c (A : Option Addr) (c B : Nat) (ws : List BA) (w : World) (h : Row w B A ws.length (wdAt ws)) (hB : B <= w.heap.size) (hn : ws.length <= 4) (hw : ∀ k, (ws.getD k ByteArray.empty).size <= 13) :
 Calls Tryz.prog 111 #[sC A ws.length c, .string ⟨#[44]⟩] w fun e w' => e = .returned (.string (jn ws)) /\ Nx w w' := by
 go_enter func111, ntmps111
 go_wp2
 go_loopw [5, 6] (fun o i wr => ∃ (k : Nat) (s : BA), k <= ws.length /\ i = ii k /\ o = .string s /\ s.size <= 56 /\ Hid (s = jn (ws.take k)) /\ Nx w wr) (fun _ i _ => ws.length - (intOf i).toNat)
 case atStart => exact ⟨0, ⟨#[]⟩, Nat.zero_le _, rfl, rfl, by decide, qh rfl, Nx.refl _⟩
 case round =>
  obtain ⟨k, s, hk, rfl, rfl, hs, HS, hnx⟩ := hrel
  by_cases hlt : k < ws.length
  . obtain ⟨b, off, rfl, hb, hc0⟩ := (h.below hnx hB) oM
    have hc := hc0 k hlt
    clear hc0
    unfold wdAt at hc
    have hx13 := hw k
    have HJ := qh (jn_size (k + 1) ws hw oM)
    obtain ⟨x, Hx⟩ := nM (ws.getD k ByteArray.empty)
    rw [Hx.out] at hc hx13
    rcases Nat.eq_zero_or_pos k with hz | hp
    . subst hz
      have HF := qh (jn_step0 HS.out hlt Hx.out)
      rw [<- HF.out] at HJ
      rw [Nat.add_zero] at hc
      go_wp2
      go_roundw
      case rel => exact ⟨0 + 1, _, oM, by go_num, rfl, by have := HJ.out; omega, HF, hnx⟩
      case measure => simp [intOf]; omega
    . have hd : decide (0 < (k : Int)) = true := by simp; omega
      have HF := qh (jn_stepS HS.out hp hlt Hx.out)
      rw [<- HF.out] at HJ
      have h44 : (⟨#[44]⟩ : BA).size = 1 := rfl
      go_wp2
      go_roundw
      case rel => exact ⟨k + 1, _, oM, by go_num, rfl, by have := HJ.out; omega, HF, hnx⟩
      case measure => simp [intOf]; omega
  . obtain rfl : k = ws.length := oM
    have HR := qh (show s = jn ws by rw [HS.out, List.take_length])
    go_wp2
    go_ret
    exact ⟨ret_str HR.out, hnx⟩
theorem addS_run {o : Oper} {a : Act} {x y : Operand} {s r : BA} {W : World} (ho : o.op = .binOp .add 9 x y 9) (hx : a.eval x = .string s) (hy : a.eval y = .string r) (h : s.size + r.size <= 1000000) :
 (execOp a.eval o).run Tryz.prog W = .ok (.value (.string (s ++ r))) W := by
 have h1 := run_string_add_sum (P := Tryz.prog) W s r oM
 unfold execOp
 simp only [ho, hx, hy, binOp_string_add]
 simp [h1, go_sem]
theorem mkW_of (nm : BA) (q : Nat) : nm ++ ⟨#[61]⟩ ++ ⟨(digs q).toArray⟩ = mkW (nm, (q : Int)) := by
 unfold mkW; simp
theorem wV_succ {ms : List Mrk} {k : Nat} (hk : k < ms.length) {q : Mrk} (hq : ms.getD k mrZ = q) : wV (wds (ms.take (k + 1))) = wV (wds (ms.take k)) ++ [.string (mkW q)] := by
 rw [<- wds_take, <- wds_take, jn_take (by rw [wds_len]; exact hk), wds_at hk, hq]
 unfold wV; simp
theorem wdsT_len {ms : List Mrk} {k : Nat} (hk : k <= ms.length) : (wds (ms.take k)).length = k := by rw [wds_len, List.length_take]; omega
theorem l04Text_c (g b p t : Int) (A A2 : Option Addr) (c c2 B : Nat) (xs : List Int) (ms : List Mrk) (w : World) (h : Ins w B A xs) (h2 : Mks w B A2 ms) (hB : B <= w.heap.size) (hok : superB g b p t xs ms = true) :
 Calls Tryz.prog 47 #[.agg #[ii g, ii b, ii p, ii t, sC A xs.length c, sC A2 ms.length c2]] w fun e w' => e = .returned (.string (sealS (numsS (supN g b p t xs) ++ ⟨#[124]⟩ ++ jn (wds ms)))) /\ Nx w w' := by
 have HK := qh hok
 have hl4 : ms.length <= 4 := (msB_yes (superB_yes hok).2.2.2.2.2).1
 have hl20 : xs.length <= 20 := (tbB_yes (superB_yes hok).2.2.2.2.1).1
 have HM := qh (superB_yes hok).2.2.2.2.2
 clear hok
 obtain ⟨i0, hi0, hz0, hz1, hz2⟩ := info_parts infoS
 go_enter func47, ntmps47
 have b0 := Box.new w 26 #[ii g, ii b, ii p, ii t, sC A xs.length c, sC A2 ms.length c2]
 have hx0 := (Nx.refl w).alloc (.cells #[ii g, ii b, ii p, ii t, sC A xs.length c, sC A2 ms.length c2] 26)
 have b1 := b0.alloc (.cells #[ii g, ii b, ii p, ii t] 3)
 have hx1 := hx0.alloc (.cells #[ii g, ii b, ii p, ii t] 3)
 have hR1 := RowI.new4 (w.alloc (.cells #[ii g, ii b, ii p, ii t, sC A xs.length c, sC A2 ms.length c2] 26)) (B := w.heap.size) g b p t (by simp)
 simp only [World.size_alloc] at hR1
 have HX1 := qh hx1
 have HB1 := qh b1
 have HR1 := qh hR1
 clear hx1 b1 hR1 hx0 b0
 go_wp2_with (at_builtin; refine wpList_app4I rfl _ _ rfl w.heap.size (w.heap.size + 1) A c [g, b, p, t] xs rfl rfl rfl HR1.out (h.below HX1.out hB) oM HX1.out.size ?_)
 intro A' k' w2 hR2 hG2
 have hx2 := hG2.nx w HX1.out nle
 have b2 := hG2.box _ _ _ dC HB1.out
 clear HX1 HB1 HR1 hG2
 have HR2 : Hid (RowI w2 w.heap.size (sC A' (xs.length + 4) k') (supL g b p t xs)) := qh hR2
 clear hR2
 go_wp2_with fail
 have hw0 := RowW.new w2 (B := w2.heap.size) nle
 have hn0 := (Nx.refl w2).alloc (.cells #[] 9)
 go_loopw [4, 5] (fun s i wr => ∃ (k : Nat) (v : Value), k <= ms.length /\ i = ii k /\ v = s /\ RowW wr w2.heap.size v (wds (ms.take k)) /\ Nx w2 wr) (fun _ i _ => ms.length - (intOf i).toNat)
 case atStart => exact ⟨0, _, Nat.zero_le _, rfl, rfl, hw0, hn0⟩
 case round =>
  obtain ⟨k, v, hk, rfl, rfl, hw, hnx⟩ := hrel
  obtain ⟨_, _, _, _, _, c5⟩ := (b2.nx hnx).d6
  clear hw0 hn0
  by_cases hlt : k < ms.length
  . obtain ⟨bb, off, rfl, hb, k0, k1⟩ := (h2.below (hx2.trans hnx) hB).at_ hlt
    have hms := msB_at HM.out hlt
    obtain ⟨⟨q0, q1'⟩, Hq'⟩ : ∃ q, Hid (ms.getD k mrZ = q) := ⟨_, rfl⟩
    rw [Hq'.out] at k0 k1 hms
    obtain ⟨q1, Hq1⟩ : ∃ q : Nat, Hid (q1' = (q : Int)) := ⟨q1'.toNat, qh (by have := hms.2.1; simp only at this; omega)⟩
    rw [Hq1.out] at k1 hms Hq'
    obtain ⟨hs6, _, hq6⟩ := hms
    simp only at k0 k1 hs6 hq6
    have Hq : Hid (ms.getD k mrZ = (q0, (q1 : Int))) := Hq'
    have hbw : bb < w2.heap.size := by have := hx2.size; omega
    have hbv : w.heap.size < w2.heap.size := b2.lt
    have hq7 : q1 <= 999999 := oM
    have hlk : (wds (ms.take k)).length = k := wdsT_len hk
    have hwk : wr.ownsRow w2.heap.size 9 1 v k (wV (wds (ms.take k))) := by have := hw; unfold RowW at this; rwa [hlk] at this
    have h61 : (⟨#[61]⟩ : BA).size = 1 := rfl
    clear hw hlk Hq1 hq6
    go_wp2_with fail
    refine wp_lexA (kf9 (kf5 (true :: ff :: true :: true :: ff :: []))) (fun w' => CC w' w.heap.size 5 (sC (some ⟨bb, off, none⟩) ms.length c2) /\ CC w' bb (off + k * 2) (.string q0) /\ CC w' bb (off + k * 2 + 1) (ii q1)) (by exact ⟨c5, k0, k1⟩) ?_
    iterate 7 (refine HL.tk ?_; (try simp only [Act.put, qqA, qqB, qqC]))
    refine HL.take (v := .string (q0 ++ ⟨#[61]⟩)) (by rfl) (fun W _ => addS_run rfl rfl rfl oM) ?_
    refine nZ ?_
    iterate 6 (refine HL.tk ?_; (try simp only [Act.put, qqA, qqB, qqC]))
    refine hLc fun K hK => ?_
    go_simp
    refine (l00Digits_c q1 _ hq7).mono ?_
    rintro e wd ⟨rfl, hnd⟩
    have hxd := hnx.trans (Nx.drew_r hnd)
    have hwd := (show RowW wr w2.heap.size v (wds (ms.take k)) by unfold RowW; rw [wdsT_len hk]; exact hwk).nx (Nx.drew_r hnd)
    have HW := qh (mkW_of q0 q1)
    obtain ⟨d, Hd⟩ := nM ((⟨(digs q1).toArray⟩ : BA) : BA)
    have hd6 : d.size <= 6 := by rw [<- Hd.out]; have := (digs_len hq7).2; simp [ByteArray.size]; omega
    rw [Hd.out] at HW ⊢
    go_wp2_with fail
    refine hK.out _ _ (by exact ⟨(hxd.of_two' hnx ⟨w.heap.size, 5, none⟩ hbv).trans c5, (hxd.of_two' hnx ⟨bb, off + k * 2, none⟩ hbw).trans k0, (hxd.of_two' hnx ⟨bb, off + k * 2 + 1, none⟩ hbw).trans k1⟩) ?_
    clear hK K
    refine nZ ?_
    refine HL.take (v := .string ((q0 ++ ⟨#[61]⟩) ++ d)) (by rfl) (fun W _ => addS_run rfl rfl rfl (by rw [ByteArray.size_append]; omega)) ?_
    refine nZ ?_
    rw [HW.out]
    refine hLc fun K hK => ?_
    go_simp
    change K _ (wd.alloc _)
    have bz := Box.new wd 9 #[.string (mkW (q0, (q1 : Int)))]
    have hwz := hwd.nx ((Nx.refl wd).alloc (.cells #[.string (mkW (q0, (q1 : Int)))] 9))
    have hxz := hxd.alloc (.cells #[.string (mkW (q0, (q1 : Int)))] 9)
    refine hK.out _ _ (by exact ⟨(hxz.of_two' hnx ⟨w.heap.size, 5, none⟩ hbv).trans c5, (hxz.of_two' hnx ⟨bb, off + k * 2, none⟩ hbw).trans k0, (hxz.of_two' hnx ⟨bb, off + k * 2 + 1, none⟩ hbw).trans k1⟩) ?_
    generalize wd.alloc (.cells #[.string (mkW (q0, (q1 : Int)))] 9) = wz at *
    clear hK K
    refine nZ ?_
    refine hLc fun K hK => ?_
    have hwz' : wz.ownsRow w2.heap.size 9 1 v k (wV (wds (ms.take k))) := by have := hwz; unfold RowW at this; rwa [wdsT_len hk] at this
    refine wp_append_own wz _ _ 32 rfl w2.heap.size 9 i0 _ 1 16 underlying32 hi0 hz0 hz1 hz2 rfl oM v k _ rfl hwz' ⟨wd.heap.size, 0, none⟩ 1 1 [.string (mkW (q0, (q1 : Int)))] rfl rfl (fun j u hj => ?_) (fun u hu => ?_) (by unfold maxLen; omega) oM (by have := hxz.size; omega) ?_
    . rw [addr_add', Nat.zero_add, bz.cell j, <- hj]
      rcases j with _ | j <;> simp
    . simp only [List.mem_cons, List.not_mem_nil, or_false] at hu; rcases hu with rfl; rfl
    intro v2 w3 hw3 hg3 _
    have hx3 : Nx w2 w3 := Below.grown hxz hg3 hxz.size (fun k hk => (hwz'.lt k hk).1)
    refine hK.out _ _ (by exact ⟨(hx3.of_two' hnx ⟨w.heap.size, 5, none⟩ hbv).trans c5, (hx3.of_two' hnx ⟨bb, off + k * 2, none⟩ hbw).trans k0, (hx3.of_two' hnx ⟨bb, off + k * 2 + 1, none⟩ hbw).trans k1⟩) ?_
    clear hK K
    refine nZ ?_
    iterate 1 (refine HL.tk ?_; (try simp only [Act.put, qqA, qqB, qqC]))
    refine HL.done ?_
    go_wp2
    go_roundw
    case rel =>
     refine ⟨k + 1, _, oM, by go_num, rfl, ?_, hx3⟩
     unfold RowW
     rw [wV_succ hlt Hq.out, wdsT_len oM]
     exact hw3
    case measure => simp [intOf]; omega
  . obtain rfl : k = ms.length := oM
    rw [List.take_length] at hw
    obtain ⟨A3, c3, rfl, hS3⟩ := hw.sl
    rw [wds_len] at hS3
    obtain ⟨A5, c5', he5, hS5⟩ := HR2.out.sl
    rw [supL_len] at he5 hS5
    injection he5 with e5 _ _
    subst e5
    have hrow := supN_row HK.out (supN_len g b p t xs).symm (hS5.nx hnx).row
    have Hl := qh (supN_len g b p t xs)
    have Hwl := qh (wds_len ms)
    have hS3r : Row wr wr.heap.size A3 (wds ms).length (wdAt (wds ms)) := by rw [wds_len]; exact hS3.row
    have hc5 : ((xs.length + 4 : Nat) : Int) = (xs.length : Int) + 4 := oM
    rw [<- Hl.out]
    go_wp2_with fail
    refine (l02Join_c A' _ _ (supN g b p t xs) _ hrow nle (supN_all HK.out) (by have := Hl.out; omega)).mono ?_
    obtain ⟨nS, HnS⟩ := nM (numsS (supN g b p t xs))
    rintro e w4 ⟨he, hnx4⟩
    have he' : e = .returned (.string nS) := he.trans (by rw [<- HnS.out]; rfl)
    subst he'
    have hns : nS.size <= 144 := by rw [<- HnS.out, numsS_size, Hl.out]; omega
    have hr4 := hS3r.below hnx4 nle
    clear he
    go_wp2_with fail
    refine (l00Join_c A3 c3 _ (wds ms) _ hr4 hnx4.size (by rw [wds_len]; omega) (wds_size HM.out)).mono ?_
    obtain ⟨jS, HjS⟩ := nM (jn (wds ms))
    have hjs : jS.size <= 56 := by rw [<- HjS.out]; have := jn_all (wds_size HM.out); rw [wds_len] at this; omega
    rw [HjS.out]
    rintro e w5 ⟨rfl, hnx5⟩
    have h124 : (⟨#[124]⟩ : BA).size = 1 := rfl
    go_wp2_with fail
    refine (l02Seal_c _ _ (by rw [ByteArray.size_append, ByteArray.size_append]; omega)).mono ?_
    have HZ := qh (show nS ++ ⟨#[124]⟩ ++ jS ++ ⟨(sumD (nS ++ ⟨#[124]⟩ ++ jS)).toArray⟩ = sealS (numsS (supN g b p t xs) ++ ⟨#[124]⟩ ++ jn (wds ms)) by rw [HnS.out, HjS.out]; rfl)
    rintro e w6 ⟨he, hnx6⟩
    have he6 := he.trans (ret_str HZ.out)
    subst he6
    clear he
    go_wp2
    go_ret
    exact ⟨rfl, (((hx2.trans hnx).trans hnx4).trans hnx5).trans hnx6⟩
end
end Go.Proofs.YtieoiailjjnnoaaGreatDoor
namespace Go.Proofs
set_option linter.unusedVariables false
open _root_.Go.Proofs.Tryz
set_option maxRecDepth 100000
set_option maxHeartbeats 16000000
section
open Go.Shelf
def Tryz.lays156_ren : Go.Shelf.Ren := ⟨fun | 156 => 177 | 165 => 213 | 166 => 174 | 169 => 175 | 240 => 211 | 241 => 231 | 276 => 229 | 277 => 244 | n => n, fun | 31 => 32 | 9 => 9 | 3 => 3 | 4 => 4 | 0 => 0 | 20 => 20 | 72 => 202 | 76 => 203 | 70 => 200 | 37 => 22 | 75 => 86 | 127 => 236 | 164 => 210 | 5 => 5 | 80 => 83 | n => n, fun | n => n⟩
theorem Tryz.lays156 : Go.Proofs.Lays.n156 Tryz.prog Tryz.lays156_ren := {
 mixed := by kernel_rfl
 f156 := func177.trans (congrArg some (by kernel_rfl))
 f165 := func213.trans (congrArg some (by kernel_rfl))
 f166 := func174.trans (congrArg some (by kernel_rfl))
 f169 := func175.trans (congrArg some (by kernel_rfl))
 f240 := func211.trans (congrArg some (by kernel_rfl))
 f241 := func231.trans (congrArg some (by kernel_rfl))
 f276 := func229.trans (congrArg some (by kernel_rfl))
 f277 := func244.trans (congrArg some (by kernel_rfl))
 t0 := underlying0
 a0 := isAgg0
 z0 := sizeOf0
 v0 := zeroValue0
 t3 := underlying3
 a3 := isAgg3
 z3 := sizeOf3
 v3 := zeroValue3
 t4 := underlying4
 a4 := isAgg4
 z4 := sizeOf4
 v4 := zeroValue4
 t9 := underlying9
 a9 := isAgg9
 z9 := sizeOf9
 v9 := zeroValue9
 t20 := underlying20
 a20 := isAgg20
 z20 := sizeOf20
 v20 := zeroValue20
 t31 := underlying32
 a31 := isAgg32
 z31 := sizeOf32
 v31 := zeroValue32
 t37 := underlying22
 a37 := isAgg22
 z37 := sizeOf22
 v37 := zeroValue22
 t70 := underlying200
 a70 := isAgg200
 z70 := sizeOf200
 v70 := zeroValue200
 t72 := underlying202
 a72 := isAgg202
 z72 := sizeOf202
 v72 := zeroValue202
 t75 := underlying86
 a75 := isAgg86
 z75 := sizeOf86
 v75 := zeroValue86
 t76 := underlying203
 a76 := isAgg203
 z76 := sizeOf203
 v76 := zeroValue203
 t127 := underlying236
 a127 := isAgg236
 z127 := sizeOf236
 v127 := zeroValue236
 t164 := underlying210
 a164 := isAgg210
 z164 := sizeOf210
 v164 := zeroValue210 }
def Tryz.laysM171_ren : Go.Shelf.Ren := ⟨fun | 171 => 176 | 243 => 212 | 246 => 230 | 283 => 240 | 284 => 241 | 285 => 242 | 286 => 243 | 129 => 251 | 317 => 250 | 318 => 252 | 319 => 253 | 320 => 254 | 337 => 256 | 338 => 257 | n => n, fun | 3 => 3 | 9 => 9 | 2 => 2 | 4 => 4 | 171 => 267 | 0 => 0 | 53 => 268 | 37 => 22 | 5 => 5 | 173 => 271 | 212 => 280 | 51 => 274 | 20 => 20 | 213 => 281 | 46 => 264 | 232 => 288 | 233 => 289 | n => n, fun | 17 => 4 | 18 => 7 | 19 => 8 | n => n⟩
theorem Tryz.laysM171 : Go.Proofs.LaysM.n171 Tryz.prog Tryz.laysM171_ren := {
 mixed := by kernel_rfl
 f129 := func251.trans (congrArg some (by kernel_rfl))
 f171 := func176.trans (congrArg some (by kernel_rfl))
 f243 := func212.trans (congrArg some (by kernel_rfl))
 f246 := func230.trans (congrArg some (by kernel_rfl))
 f283 := func240.trans (congrArg some (by kernel_rfl))
 f284 := func241.trans (congrArg some (by kernel_rfl))
 f285 := func242.trans (congrArg some (by kernel_rfl))
 f286 := func243.trans (congrArg some (by kernel_rfl))
 f317 := func250.trans (congrArg some (by kernel_rfl))
 f318 := func252.trans (congrArg some (by kernel_rfl))
 f319 := func253.trans (congrArg some (by kernel_rfl))
 f320 := func254.trans (congrArg some (by kernel_rfl))
 f337 := func256.trans (congrArg some (by kernel_rfl))
 f338 := func257.trans (congrArg some (by kernel_rfl))
 t0 := underlying0
 a0 := isAgg0
 z0 := sizeOf0
 v0 := zeroValue0
 t2 := underlying2
 a2 := isAgg2
 z2 := sizeOf2
 v2 := zeroValue2
 t3 := underlying3
 a3 := isAgg3
 z3 := sizeOf3
 v3 := zeroValue3
 t4 := underlying4
 a4 := isAgg4
 z4 := sizeOf4
 v4 := zeroValue4
 t5 := underlying5
 a5 := isAgg5
 z5 := sizeOf5
 v5 := zeroValue5
 t9 := underlying9
 a9 := isAgg9
 z9 := sizeOf9
 v9 := zeroValue9
 t20 := underlying20
 a20 := isAgg20
 z20 := sizeOf20
 v20 := zeroValue20
 t37 := underlying22
 a37 := isAgg22
 z37 := sizeOf22
 v37 := zeroValue22
 t46 := underlying264
 a46 := isAgg264
 z46 := sizeOf264
 v46 := zeroValue264
 t51 := underlying274
 a51 := isAgg274
 z51 := sizeOf274
 v51 := zeroValue274
 t53 := underlying268
 a53 := isAgg268
 z53 := sizeOf268
 v53 := zeroValue268
 t171 := underlying267
 a171 := isAgg267
 z171 := sizeOf267
 v171 := zeroValue267
 t173 := underlying271
 a173 := isAgg271
 z173 := sizeOf271
 v173 := zeroValue271
 t212 := underlying280
 a212 := isAgg280
 z212 := sizeOf280
 v212 := zeroValue280
 t213 := underlying281
 a213 := isAgg281
 z213 := sizeOf281
 t232 := underlying288
 a232 := isAgg288
 z232 := sizeOf288
 v232 := zeroValue288
 t233 := underlying289
 a233 := isAgg289
 z233 := sizeOf289
 v233 := zeroValue289
 g17 := by kernel_rfl
 g18 := by kernel_rfl
 g19 := by kernel_rfl
 i0 := by kernel_rfl
 i2 := by kernel_rfl
 i3 := by kernel_rfl
 i4 := by kernel_rfl
 i5 := by kernel_rfl
 i9 := by kernel_rfl
 i20 := by kernel_rfl
 i37 := by kernel_rfl
 i46 := by kernel_rfl
 i51 := by kernel_rfl
 i53 := by kernel_rfl
 i171 := by kernel_rfl
 i173 := by kernel_rfl
 i212 := by kernel_rfl
 i232 := by kernel_rfl
 i233 := by kernel_rfl
 m17 := by kernel_rfl
 m18 := by kernel_rfl
 m19 := by kernel_rfl }
theorem Tryz.Builder_Extra_156 : Builder.Extra Tryz.prog Tryz.lays156_ren := {
 sizeBuilder := by kernel_rfl
 liesBuilder := by kernel_rfl
 t5 := underlying5
 a5 := isAgg5
 z5 := sizeOf5
 v5 := zeroValue5
 infoByte := by kernel_rfl
 cellsByte := by kernel_rfl
 sizeByte := by kernel_rfl
 neB5 := by decide }
end
end Go.Proofs
