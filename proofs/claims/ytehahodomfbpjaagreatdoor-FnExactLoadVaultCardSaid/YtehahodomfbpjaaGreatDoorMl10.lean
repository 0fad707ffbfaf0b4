/-
  Texts of the proof, put together in their order: Sgo, Sgf, Vld, Rgs, Lds.
  Conditions: those of each.
-/
import Derived.Test.YtehahodomfbpjaaGreatDoorMl9
/- Segments read back from numbers: what they are, and words on lists of changes that grow. Conditions: none. -/
namespace Go.Proofs.YtehahodomfbpjaaGreatDoor
set_option linter.unusedVariables false
set_option maxRecDepth 100000
open Go.RowKit

def chN3 (ns : List Nat) (j : Nat) : Chg := ((ns.getD (3 + 3 * j) 0 : Nat), (ns.getD (3 + 3 * j + 1) 0 : Nat), (ns.getD (3 + 3 * j + 2) 0 : Nat))
def chOf (ns : List Nat) (k : Nat) : List Chg := (List.range k).map (chN3 ns)
theorem chOf_len (ns : List Nat) (k : Nat) : (chOf ns k).length = k := by simp [chOf]
theorem chOf_succ (ns : List Nat) (k : Nat) : chOf ns (k + 1) = chOf ns k ++ [chN3 ns k] := by simp [chOf, List.range_succ]
def chsV (cs : List Chg) : List Value := cs.flatMap chV
theorem chsV_succ (ns : List Nat) (k : Nat) : chsV (chOf ns (k + 1)) = chsV (chOf ns k) ++ chV (chN3 ns k) := by
  unfold chsV; rw [chOf_succ, List.flatMap_append]; simp
theorem chsV_get : ∀ (cs : List Chg) (i : Nat), i < cs.length * 3 → (chsV cs)[i]? = some (chAt cs i)
  | [], i, h => by simp at h
  | c :: cs, i, h => by
    show (chV c ++ chsV cs)[i]? = _
    by_cases hi : i < 3
    · rw [List.getElem?_append_left (by simpa [chV] using hi)]
      match i, hi with
      | 0, _ => rfl
      | 1, _ => rfl
      | 2, _ => rfl
    · rw [List.getElem?_append_right (by simpa [chV] using hi)]
      have hl : (chV c).length = 3 := rfl
      rw [hl, chsV_get cs (i - 3) (by simp at h; omega)]
      have e1 : (i - 3) % 3 = i % 3 := by omega
      have e2 : i / 3 = (i - 3) / 3 + 1 := by omega
      unfold chAt
      rw [e1, e2, List.getD_cons_succ]
/-- The segment of a text: its three numbers and its changes. -/
abbrev G4 := Nat × Nat × Nat × List Chg
def sgOf (ns : List Nat) : G4 := (ns.getD 0 0, ns.getD 1 0, ns.getD 2 0, chOf ns (ns.length / 3 - 1))
def okLen (ns : List Nat) : Bool := decide (3 ≤ ns.length) && decide (ns.length % 3 = 0)
def g4B (q : G4) : Bool := segB q.1 q.2.1 q.2.2.1 q.2.2.2
def rdG (t : ByteArray) : Option G4 := (rdN t).bind fun ns => if okLen ns && g4B (sgOf ns) then some (sgOf ns) else none
theorem rdG_none {t : ByteArray} (h : rdN t = none) : rdG t = none := by unfold rdG; rw [h]; rfl
theorem rdG_len {t : ByteArray} {ns : List Nat} (h : rdN t = some ns) (hl : okLen ns = false) : rdG t = none := by unfold rdG; rw [h]; simp [hl]
theorem rdG_no {t : ByteArray} {ns : List Nat} (h : rdN t = some ns) (hl : g4B (sgOf ns) = false) : rdG t = none := by unfold rdG; rw [h]; simp [hl]
theorem rdG_yes {t : ByteArray} {ns : List Nat} (h : rdN t = some ns) (hl : okLen ns = true) (hb : g4B (sgOf ns) = true) : rdG t = some (sgOf ns) := by unfold rdG; rw [h]; simp [hl, hb]
theorem owns_slC {w : World} {B : Nat} {cs : List Chg} {v : Value} (h : w.ownsRow B 202 3 v cs.length (chsV cs)) :
    ∃ A c, v = .slice A cs.length c ∧ Sl w B A 202 (cs.length * 3) (chAt cs) := by
  rcases h.2 with ⟨rfl, h0⟩ | ⟨g, cap, cur, rfl, hb, hg, hnc, _, hcs, htk⟩
  · exact ⟨none, 0, by rw [h0], fun hn => by omega⟩
  · refine ⟨_, cap, rfl, Sl.own ⟨cur, hg, by have := Nat.mul_le_mul_right 3 hnc; omega, fun i hi => ?_⟩ hb⟩
    have h1 : (cur.toList.take (cs.length * 3))[i]? = some (chAt cs i) := by rw [htk]; exact chsV_get cs i hi
    rw [List.getElem?_take_of_lt hi] at h1
    simpa using h1
theorem owns_nx3 {w w' : World} {B : Nat} {e : TypeId} {v : Value} {n : Nat} {xs : List Value} (h : w.ownsRow B e 3 v n xs) (hb : Nx w w') : w'.ownsRow B e 3 v n xs := by
  refine h.kept (row := none) ⟨hb.os, hb.tape, hb.output, hb.size, fun i hi _ => hb.block i hi⟩ ?_
  cases hv : v.ownBlock with
  | none => exact .inl rfl
  | some g => exact .inr (by simp)
/-- A row of changes does not lie in a segment's own block. -/
theorem owns_ne {w : World} {B g : Nat} {v : Value} {n : Nat} {xs : List Value} {cs : Array Value} (h : w.ownsRow B 202 3 v n xs) (hb : Box w g 130 cs) : some g ≠ v.ownBlock := by
  intro he
  rcases h.2 with ⟨rfl, _⟩ | ⟨g', cap, cur, rfl, _, hg, _⟩
  · simp [Value.ownBlock] at he
  · obtain rfl : g = g' := by simpa [Value.ownBlock] using he
    unfold Box at hb
    rw [hg] at hb
    injection hb with hb
    injection hb with _ hb
    exact absurd hb (by decide)
theorem owns_far {w : World} {B g : Nat} {v u : Value} {n i : Nat} {xs : List Value} {cs : Array Value} (h : w.ownsRow B 202 3 v n xs) (hb : Box w g 130 cs) : (w.setCell ⟨g, i, none⟩ u).ownsRow B 202 3 v n xs :=
  h.kept (row := some g) ⟨rfl, rfl, rfl, by simp [World.setCell], fun k hk hn => Below.heap_setCell _ _ _ _ (fun e => hn (by rw [e]))⟩ (.inr (fun e => owns_ne h hb e.symm))
theorem info_chg : (Tryz.prog.info? 202).map (fun i => (i.zero, i.size, i.bytes)) = some (some (.agg #[.int .i64 0, .int .i64 0, .int .i64 0]), 3, 24) := by kernel_rfl
end Go.Proofs.YtehahodomfbpjaaGreatDoor
/- Contract of the program's segOfText. Conditions: texts of at most 65536 bytes; the package's errors are known. -/
namespace Go.Proofs.YtehahodomfbpjaaGreatDoor
set_option linter.unusedVariables false
set_option maxRecDepth 100000
open Go.RowKit

theorem news3 (w : World) (t : TypeId) (x y z : Value) : ∀ j u, [x, y, z][j]? = some u → (w.alloc (.cells #[x, y, z] t)).cell? ((Addr.mk w.heap.size 0 none).add j) = some u := fun j u hj => by
  have ho := Own.new3 w t x y z
  rcases j with _ | _ | _ | j
  · injection hj with hj; subst hj; exact (ho.cell (i := 0) (by omega))
  · injection hj with hj; subst hj; exact (ho.cell (i := 1) (by omega))
  · injection hj with hj; subst hj; exact (ho.cell (i := 2) (by omega))
  · simp at hj
theorem rdN_len {t : ByteArray} {ns : List Nat} (ht : t.size ≤ 65536) (h : rdN t = some ns) : ns.length ≤ 65536 := by
  unfold rdN at h
  cases ho : opensB t with
  | false => rw [ho] at h; cases h
  | true =>
    rw [ho] at h
    unfold numsO at h
    by_cases hc : (bodyOf t).data.toList.length % 6 = 0 ∧ digL (bodyOf t).data.toList = true
    · simp only [if_true, if_pos hc] at h
      injection h with h
      subst h
      rw [numsOf_len, ← ba_size]
      have := bodyOf_size t
      omega
    · simp only [if_true, if_neg hc] at h; cases h
theorem Row.at0 {w : World} {B m : Nat} {A : Option Addr} {f : Nat → Value} (h : Row w B A m f) (hm : 0 < m) : ∃ b off, A = some ⟨b, off, none⟩ ∧ b < B ∧ ∀ i, i < m → w.cell? ⟨b, off + i, none⟩ = some (f i) := h hm
/-- The loop's relation: k changes are there, the next number is p. -/
def SegLoop (w1 : World) (gG : Nat) (n0 n1 n2 : Nat) (ns : List Nat) (i : Value) (wr : World) : Prop :=
  ∃ (k p : Nat) (v : Value), p ≤ ns.length ∧ Hid (p = 3 + 3 * k) ∧ i = .int .i64 p ∧ Box wr gG 130 #[.int .i64 n0, .int .i64 n1, .int .i64 n2, v] ∧ wr.ownsRow w1.heap.size 202 3 v k (chsV (chOf ns k)) ∧ Nx w1 wr
theorem Sl.put4 {u : World} {lo g : Nat} {A : Option Addr} {t : TypeId} {m : Nat} {f : Nat → Value} (h : Sl u lo A t m f) (hg : g < lo) (v0 v1 v2 v3 : Value) : Sl (put4 u g v0 v1 v2 v3) lo A t m f :=
  (((h.far (p := ⟨g, 0, none⟩) hg v0).far (p := ⟨g, 1, none⟩) hg v1).far (p := ⟨g, 2, none⟩) hg v2).far (p := ⟨g, 3, none⟩) hg v3
/-- What reading a segment leaves: no segment, and bad; or one in new memory, and good. -/
def RetST (w : World) (o : Option G4) (bad good : Value) (e : Ending) (w' : World) : Prop :=
  Nx w w' ∧ (o = none → e = .returned (.tuple #[.agg #[.int .i64 0, .int .i64 0, .int .i64 0, .slice none 0 0], bad])) ∧
  ∀ q, o = some q → ∃ A c, e = .returned (.tuple #[.agg #[.int .i64 q.1, .int .i64 q.2.1, .int .i64 q.2.2.1, .slice A q.2.2.2.length c], good]) ∧ Sl w' w.heap.size A 202 (q.2.2.2.length * 3) (chAt q.2.2.2)
theorem RetST.no {w w' : World} {o : Option G4} {bad good : Value} (h : o = none) (hn : Nx w w') : RetST w o bad good (.returned (.tuple #[.agg #[.int .i64 0, .int .i64 0, .int .i64 0, .slice none 0 0], bad])) w' :=
  ⟨hn, fun _ => rfl, fun q h2 => by rw [h] at h2; cases h2⟩
theorem RetST.yes {w w' : World} {o : Option G4} {bad good : Value} {ns : List Nat} {n0 n1 n2 k c : Nat} {A : Option Addr} (h : o = some (sgOf ns)) (hq : sgOf ns = (n0, n1, n2, chOf ns k)) (hs : Sl w' w.heap.size A 202 ((chOf ns k).length * 3) (chAt (chOf ns k))) (hn : Nx w w') :
    RetST w o bad good (.returned (.tuple #[.agg #[.int .i64 n0, .int .i64 n1, .int .i64 n2, .slice A (chOf ns k).length c], good])) w' :=
  ⟨hn, (fun h2 => by rw [h] at h2; cases h2), fun q h2 => by rw [h, hq] at h2; injection h2 with h2; subst h2; exact ⟨A, c, rfl, hs⟩⟩
theorem okLen_yes {ns : List Nat} (h1 : 3 ≤ ns.length) (h2 : ns.length % 3 = 0) : okLen ns = true := by unfold okLen; simp [h1, h2]
theorem okLen_no {ns : List Nat} (h : ¬ (3 ≤ ns.length ∧ ns.length % 3 = 0)) : okLen ns = false := by
  unfold okLen
  cases h1 : decide (3 ≤ ns.length) with
  | false => rfl
  | true =>
    have h1' : 3 ≤ ns.length := by simpa using h1
    rw [decide_eq_false (fun h2 => h ⟨h1', h2⟩)]; rfl
set_option maxRecDepth 100000 in
set_option maxHeartbeats 8000000 in
/-- From the loop on, up to its end. -/
theorem segOfText_c (t : ByteArray) (w : World) (a0 a1 : Addr) (ht : t.size ≤ 65536) (hE : Er w a0 a1) : Calls Tryz.prog 216 #[.string t] w (RetST w (rdG t) (.iface 304 (.pointer (some a0))) .nilIface) := by
  obtain ⟨i0, hi0, hz0, hz1, hz2⟩ := info_parts info_chg
  have e0 := hE.1
  have hg0 : 0 < w.heap.size := World.block_lt_of_cell? w _ e0
  have b0 := Box.new w 130 #[.int .i64 0, .int .i64 0, .int .i64 0, .slice none 0 0]
  have hx0 := (Nx.refl w).alloc (.cells #[.int .i64 0, .int .i64 0, .int .i64 0, .slice none 0 0] 130)
  go_enter Tryz.func216, Tryz.ntmps216
  go_wp2_with fail
  generalize w.alloc (.cells #[.int .i64 0, .int .i64 0, .int .i64 0, .slice none 0 0] 130) = W at *
  refine (sealedNumbers_c t _ a0 a1 ht (hE.nx hx0)).mono ?_
  rintro e w1 ⟨hnx1, h1, h2⟩
  have b1 := b0.nx hnx1
  have hxw := hx0.trans hnx1
  clear b0 hx0 hnx1
  cases hr : rdN t with
  | none =>
    obtain rfl := h1 hr
    have HF := Lib.hid (rdG_none hr)
    clear h1 h2 hr
    obtain ⟨c0, c1, c2, c3⟩ := b1.d4
    have f0 := b1.frozen 0
    have f1 := b1.frozen 1
    have f2 := b1.frozen 2
    have f3 := b1.frozen 3
    go_wp2
    have q := (put4_box b1 (.int .i64 0) (.int .i64 0) (.int .i64 0) (.slice none 0 0))
    have hnf := (put4_nx hxw (Nat.le_refl w.heap.size) (.int .i64 0) (.int .i64 0) (.int .i64 0) (.slice none 0 0))
    change bodyPost _ _ _ _ _ (put4 w1 w.heap.size (.int .i64 0) (.int .i64 0) (.int .i64 0) (.slice none 0 0))
    change Box (put4 w1 w.heap.size (.int .i64 0) (.int .i64 0) (.int .i64 0) (.slice none 0 0)) _ _ _ at q
    generalize put4 w1 w.heap.size (.int .i64 0) (.int .i64 0) (.int .i64 0) (.slice none 0 0) = Wf at *
    obtain ⟨g0, g1, g2, g3⟩ := q.d4
    exact bodyPost_ret (v := .tuple #[.agg #[.int .i64 0, .int .i64 0, .int .i64 0, .slice none 0 0], .iface 304 (.pointer (some a0))]) (by simp [results, Tryz.results216, go_sem, g0, g1, g2, g3]) rfl (RetST.no HF.out hnf)
  | some ns =>
    obtain ⟨A, c, rfl, hrow, _⟩ := h2 ns hr
    have HN := Lib.hid hr
    clear h1 h2 hr
    have HNL := Lib.hid (rdN_len ht HN.out)
    by_cases hl : 3 ≤ ns.length ∧ ns.length % 3 = 0
    case neg =>
      have HF := Lib.hid (rdG_len HN.out (okLen_no hl))
      by_cases hz : ns.length = 0
      · have he0 : ((ns.length : Int) == 0) = true := beq_iff_eq.2 (by omega)
        clear hz hl
        obtain ⟨c0, c1, c2, c3⟩ := b1.d4
        have f0 := b1.frozen 0
        have f1 := b1.frozen 1
        have f2 := b1.frozen 2
        have f3 := b1.frozen 3
        have hlt := b1.lt
        go_wp2_with fail
        refine wp_region_lex [false, false, true, false] (fun w' => w'.cell? ⟨0, 0, none⟩ = some (.iface 304 (.pointer (some a0)))) (by kernel_rfl) (by kernel_rfl) rfl (by kernel_rfl) (fun _ _ d _ _ h => by cases d <;> exact h) (by exact ((hxw.drew).cell (p := ⟨0, 0, none⟩) hg0).trans e0) ?_
        repeat (first | (refine HL.take (v := ?_) (by rfl) ?_ ?_; rotate_left; (· (intro w hSw; (try dsimp only at hSw); go_simp; try with_reducible rfl)); (try simp only [Act.put, List.setIfInBounds_toArray, List.set_cons_zero, List.set_cons_succ])) | (refine HL.skip (by rfl) ?_; (try simp only [Act.put, List.setIfInBounds_toArray, List.set_cons_zero, List.set_cons_succ])))
        refine HL.call (by rfl) (fun K hK => ?_)
        go_simp
        refine hK.out _ _ (by exact (put4_nx hxw.drew (Nat.le_refl w.heap.size) (.int .i64 0) (.int .i64 0) (.int .i64 0) (.slice none 0 0)).cell (p := ⟨0, 0, none⟩) hg0 |>.trans e0) ?_
        clear hK K
        try simp only [Act.put, List.setIfInBounds_toArray, List.set_cons_zero, List.set_cons_succ]
        repeat (first | (refine HL.take (v := ?_) (by rfl) ?_ ?_; rotate_left; (· (intro w hSw; (try dsimp only at hSw); go_simp; try with_reducible rfl)); (try simp only [Act.put, List.setIfInBounds_toArray, List.set_cons_zero, List.set_cons_succ])) | (refine HL.skip (by rfl) ?_; (try simp only [Act.put, List.setIfInBounds_toArray, List.set_cons_zero, List.set_cons_succ])))
        refine HL.done ?_
        clear c0 c1 c2 c3 f0 f1 f2 f3
        go_wp2
        have q := (put4_box b1 (.int .i64 0) (.int .i64 0) (.int .i64 0) (.slice none 0 0))
        have hnf := (put4_nx hxw (Nat.le_refl w.heap.size) (.int .i64 0) (.int .i64 0) (.int .i64 0) (.slice none 0 0)).drew
        change bodyPost _ _ _ _ _ (World.drew (put4 w1 w.heap.size (.int .i64 0) (.int .i64 0) (.int .i64 0) (.slice none 0 0)))
        change Box (World.drew (put4 w1 w.heap.size (.int .i64 0) (.int .i64 0) (.int .i64 0) (.slice none 0 0))) _ _ _ at q
        generalize World.drew (put4 w1 w.heap.size (.int .i64 0) (.int .i64 0) (.int .i64 0) (.slice none 0 0)) = Wf at *
        obtain ⟨g0, g1, g2, g3⟩ := q.d4
        exact bodyPost_ret (v := .tuple #[.agg #[.int .i64 0, .int .i64 0, .int .i64 0, .slice none 0 0], .iface 304 (.pointer (some a0))]) (by simp [results, Tryz.results216, go_sem, g0, g1, g2, g3]) rfl (RetST.no HF.out hnf)
      have he0 : ((ns.length : Int) == 0) = false := beq_eq_false_iff_ne.2 (by omega)
      have he1 : ((ns.length : Int) % 3 != 0) = true := by rw [bne_iff_ne]; omega
      clear hz hl
      obtain ⟨c0, c1, c2, c3⟩ := b1.d4
      have f0 := b1.frozen 0
      have f1 := b1.frozen 1
      have f2 := b1.frozen 2
      have f3 := b1.frozen 3
      have hlt := b1.lt
      go_wp2_with fail
      refine wp_region_lex [false, false, true, false] (fun w' => w'.cell? ⟨0, 0, none⟩ = some (.iface 304 (.pointer (some a0)))) (by kernel_rfl) (by kernel_rfl) rfl (by kernel_rfl) (fun _ _ d _ _ h => by cases d <;> exact h) (by exact ((hxw.drew).cell (p := ⟨0, 0, none⟩) hg0).trans e0) ?_
      repeat (first | (refine HL.take (v := ?_) (by rfl) ?_ ?_; rotate_left; (· (intro w hSw; (try dsimp only at hSw); go_simp; try with_reducible rfl)); (try simp only [Act.put, List.setIfInBounds_toArray, List.set_cons_zero, List.set_cons_succ])) | (refine HL.skip (by rfl) ?_; (try simp only [Act.put, List.setIfInBounds_toArray, List.set_cons_zero, List.set_cons_succ])))
      refine HL.call (by rfl) (fun K hK => ?_)
      go_simp
      refine hK.out _ _ (by exact (put4_nx hxw.drew (Nat.le_refl w.heap.size) (.int .i64 0) (.int .i64 0) (.int .i64 0) (.slice none 0 0)).cell (p := ⟨0, 0, none⟩) hg0 |>.trans e0) ?_
      clear hK K
      try simp only [Act.put, List.setIfInBounds_toArray, List.set_cons_zero, List.set_cons_succ]
      repeat (first | (refine HL.take (v := ?_) (by rfl) ?_ ?_; rotate_left; (· (intro w hSw; (try dsimp only at hSw); go_simp; try with_reducible rfl)); (try simp only [Act.put, List.setIfInBounds_toArray, List.set_cons_zero, List.set_cons_succ])) | (refine HL.skip (by rfl) ?_; (try simp only [Act.put, List.setIfInBounds_toArray, List.set_cons_zero, List.set_cons_succ])))
      refine HL.done ?_
      clear c0 c1 c2 c3 f0 f1 f2 f3
      go_wp2
      have q := (put4_box b1 (.int .i64 0) (.int .i64 0) (.int .i64 0) (.slice none 0 0))
      have hnf := (put4_nx hxw (Nat.le_refl w.heap.size) (.int .i64 0) (.int .i64 0) (.int .i64 0) (.slice none 0 0)).drew
      change bodyPost _ _ _ _ _ (World.drew (put4 w1 w.heap.size (.int .i64 0) (.int .i64 0) (.int .i64 0) (.slice none 0 0)))
      change Box (World.drew (put4 w1 w.heap.size (.int .i64 0) (.int .i64 0) (.int .i64 0) (.slice none 0 0))) _ _ _ at q
      generalize World.drew (put4 w1 w.heap.size (.int .i64 0) (.int .i64 0) (.int .i64 0) (.slice none 0 0)) = Wf at *
      obtain ⟨g0, g1, g2, g3⟩ := q.d4
      exact bodyPost_ret (v := .tuple #[.agg #[.int .i64 0, .int .i64 0, .int .i64 0, .slice none 0 0], .iface 304 (.pointer (some a0))]) (by simp [results, Tryz.results216, go_sem, g0, g1, g2, g3]) rfl (RetST.no HF.out hnf)
    case pos =>
      obtain ⟨hl3, hlm⟩ := hl
      have he0 : ((ns.length : Int) == 0) = false := beq_eq_false_iff_ne.2 (by omega)
      have he1 : ((ns.length : Int) % 3 != 0) = false := by rw [bne_eq_false_iff_eq]; omega
      obtain ⟨N, hN⟩ : ∃ N, ns.length = 3 + 3 * N := ⟨ns.length / 3 - 1, by omega⟩
      have HNN := Lib.hid hN
      have HOL := Lib.hid (okLen_yes hl3 hlm)
      clear hN hlm
      obtain ⟨b, off, rfl, hb, hcl⟩ := hrow.at0 (by omega)
      obtain ⟨n0, Hn0⟩ : ∃ n, Hid (ns.getD 0 0 = n) := ⟨_, rfl⟩
      obtain ⟨n1, Hn1⟩ : ∃ n, Hid (ns.getD 1 0 = n) := ⟨_, rfl⟩
      obtain ⟨n2, Hn2⟩ : ∃ n, Hid (ns.getD 2 0 = n) := ⟨_, rfl⟩
      have k0 : w1.cell? ⟨b, off, none⟩ = some (.int .i64 n0) := by have := hcl 0 (by omega); unfold intAt at this; rw [Hn0.out] at this; exact this
      have k1 : w1.cell? ⟨b, off + 1, none⟩ = some (.int .i64 n1) := by have := hcl 1 (by omega); unfold intAt at this; rw [Hn1.out] at this; exact this
      have k2 : w1.cell? ⟨b, off + 2, none⟩ = some (.int .i64 n2) := by have := hcl 2 (by omega); unfold intAt at this; rw [Hn2.out] at this; exact this
      have HCL := Lib.hid hcl
      have hl0 : (0 : Int) < (ns.length : Int) := by omega
      have hl1 : (1 : Int) < (ns.length : Int) := by omega
      have hl2 : (2 : Int) < (ns.length : Int) := by omega
      have hm0 : 0 < ns.length := by omega
      have hm1 : 1 < ns.length := by omega
      have hm2 : 2 < ns.length := by omega
      clear hcl hrow
      go_wp2_with fail
      refine wp_region_lex [false, false, false, false, false, false, false, false, false, false, true, true] (fun w' => w'.cell? ⟨b, off, none⟩ = some (.int .i64 n0) ∧ w'.cell? ⟨b, off + 1, none⟩ = some (.int .i64 n1) ∧ w'.cell? ⟨b, off + 2, none⟩ = some (.int .i64 n2)) (by kernel_rfl) (by kernel_rfl) rfl (by kernel_rfl) (fun _ _ d _ _ h => by cases d <;> exact h) (by exact ⟨k0, k1, k2⟩) ?_
      repeat (first | (refine HL.take (v := ?_) (by rfl) ?_ ?_; rotate_left; (· (intro w hSw; (try dsimp only at hSw); go_simp; try with_reducible rfl)); (try simp only [Act.put, List.setIfInBounds_toArray, List.set_cons_zero, List.set_cons_succ])) | (refine HL.skip (by rfl) ?_; (try simp only [Act.put, List.setIfInBounds_toArray, List.set_cons_zero, List.set_cons_succ])))
      refine HL.call (by rfl) (fun K hK => ?_)
      go_simp
      refine hK.out _ _ (by exact ⟨(((Nx.refl w1).alloc _).cell (p := ⟨b, off, none⟩) hb).trans k0, (((Nx.refl w1).alloc _).cell (p := ⟨b, off + 1, none⟩) hb).trans k1, (((Nx.refl w1).alloc _).cell (p := ⟨b, off + 2, none⟩) hb).trans k2⟩) ?_
      clear hK K
      try simp only [Act.put, List.setIfInBounds_toArray, List.set_cons_zero, List.set_cons_succ]
      refine HL.call (by rfl) (fun K hK => ?_)
      go_simp
      refine hK.out _ _ (by exact ⟨(((Nx.refl w1).alloc _).cell (p := ⟨b, off, none⟩) hb).trans k0, (((Nx.refl w1).alloc _).cell (p := ⟨b, off + 1, none⟩) hb).trans k1, (((Nx.refl w1).alloc _).cell (p := ⟨b, off + 2, none⟩) hb).trans k2⟩) ?_
      clear hK K
      try simp only [Act.put, List.setIfInBounds_toArray, List.set_cons_zero, List.set_cons_succ]
      refine HL.done ?_
      clear k0 k1 k2 hl0 hl1 hl2 hm0 hm1 hm2
      have bg0 := Box.new w1 130 #[.int .i64 n0, .int .i64 n1, .int .i64 n2, .slice none 0 0]
      have hx3 := ((Nx.refl w1).alloc (.cells #[.int .i64 n0, .int .i64 n1, .int .i64 n2, .slice none 0 0] 130)).drew
      change Exit.then _ _ _ _ (World.drew (w1.alloc (.cells #[.int .i64 n0, .int .i64 n1, .int .i64 n2, .slice none 0 0] 130)))
      change Box (World.drew (w1.alloc (.cells #[.int .i64 n0, .int .i64 n1, .int .i64 n2, .slice none 0 0] 130))) _ _ _ at bg0
      generalize World.drew (w1.alloc (.cells #[.int .i64 n0, .int .i64 n1, .int .i64 n2, .slice none 0 0] 130)) = w3 at *
      go_wp2
      go_loopw [7] (fun i wr => SegLoop w1 w1.heap.size n0 n1 n2 ns i wr) (fun i _ => ns.length - (intOf i).toNat)
      case atStart => exact ⟨0, 3, .slice none 0 0, hl3, Lib.hid rfl, rfl, bg0, ⟨rfl, .inl ⟨rfl, rfl⟩⟩, hx3⟩
      case round =>
        obtain ⟨k, p, v, hp, HPp, rfl, bg, hw, hnx⟩ := hrel
        clear bg0 hx3
        by_cases hlt : p < ns.length
        · have hp3 : p + 3 ≤ ns.length := by have := HPp.out; have := HNN.out; omega
          have hn9 : ns.length ≤ 65536 := HNL.out
          obtain ⟨q0, Hq0⟩ : ∃ n, Hid (ns.getD p 0 = n) := ⟨_, rfl⟩
          obtain ⟨q1, Hq1⟩ : ∃ n, Hid (ns.getD (p + 1) 0 = n) := ⟨_, rfl⟩
          obtain ⟨q2, Hq2⟩ : ∃ n, Hid (ns.getD (p + 2) 0 = n) := ⟨_, rfl⟩
          have m0 : w1.cell? ⟨b, off + p, none⟩ = some (.int .i64 q0) := by have := HCL.out p (by omega); unfold intAt at this; rw [Hq0.out] at this; exact this
          have m1 : w1.cell? ⟨b, off + (p + 1), none⟩ = some (.int .i64 q1) := by have := HCL.out (p + 1) (by omega); unfold intAt at this; rw [Hq1.out] at this; exact this
          have m2 : w1.cell? ⟨b, off + (p + 2), none⟩ = some (.int .i64 q2) := by have := HCL.out (p + 2) (by omega); unfold intAt at this; rw [Hq2.out] at this; exact this
          have HQ := Lib.hid (show chV (chN3 ns k) = [.int .i64 q0, .int .i64 q1, .int .i64 q2] by
            unfold chV chN3; rw [← HPp.out, Hq0.out, Hq1.out, Hq2.out])
          have HO : Hid (∀ u ∈ [Value.int .i64 (q0 : Int), .int .i64 q1, .int .i64 q2], u.oneCell' = true) := Lib.hid (fun u hu => by simp only [List.mem_cons, List.not_mem_nil, or_false] at hu; rcases hu with rfl | rfl | rfl <;> rfl)
          have hbw := hb
          have hgG : w1.heap.size ≤ w1.heap.size := Nat.le_refl _
          have hk9 : k ≤ 100000 := by have := HPp.out; have := HNL.out; omega
          obtain ⟨_, _, _, c3⟩ := bg.d4
          have hw1a : (p : Int) + 1 < (ns.length : Int) := by omega
          have hw1b : (p : Int) + 2 < (ns.length : Int) := by omega
          have hw1c : (p : Int) < (ns.length : Int) := by omega
          have hw2a : ((p : Int) + 1).toNat = p + 1 := by omega
          have hw2b : ((p : Int) + 2).toNat = p + 2 := by omega
          have hw3a : (0 : Int) ≤ (p : Int) + 1 := by omega
          have hw3b : (0 : Int) ≤ (p : Int) + 2 := by omega
          have hw4a : IntKind.i64.wrap ((p : Int) + 1) = (p : Int) + 1 := IntWalk.i64_in _ (by have := HNL.out; omega)
          have hw4b : IntKind.i64.wrap ((p : Int) + 2) = (p : Int) + 2 := IntWalk.i64_in _ (by have := HNL.out; omega)
          go_wp2_with fail
          refine wp_region_plan (.t 0 (.t 2 (.t 3 (.t 4 (.t 5 (.t 6 (.t 7 (.t 8 (.t 9 (.t 10 (.t 11 (.t 12 (.t 13 (.t 14 (.t 15 (.t 16 (.b 1 (.c 17 (.c 18 (.t 19 (.c 20 .e)))) 17 (.c 1 (.c 18 (.t 19 (.c 20 .e))))))))))))))))))))) (fun w' => w'.cell? ⟨b, off + p, none⟩ = some (.int .i64 q0) ∧ w'.cell? ⟨b, off + (p + 1), none⟩ = some (.int .i64 q1) ∧ w'.cell? ⟨b, off + (p + 2), none⟩ = some (.int .i64 q2)) (by kernel_rfl) (by kernel_rfl) rfl (by kernel_rfl) (fun _ _ d _ _ h => by cases d <;> exact h) (by exact ⟨(hnx.drew.cell (p := ⟨b, off + p, none⟩) hbw).trans m0, (hnx.drew.cell (p := ⟨b, off + (p + 1), none⟩) hbw).trans m1, (hnx.drew.cell (p := ⟨b, off + (p + 2), none⟩) hbw).trans m2⟩) ?_
          simp only [psOf, List.getD_cons_zero, List.getD_cons_succ]
          repeat (first | (refine HP.take (v := ?_) (by rfl) ?_ ?_; rotate_left; (· (intro w hSw; (try dsimp only at hSw); go_simp; try with_reducible rfl)); (try simp only [Act.put, List.setIfInBounds_toArray, List.set_cons_zero, List.set_cons_succ])) | (refine HP.skip (by rfl) ?_; (try simp only [Act.put, List.setIfInBounds_toArray, List.set_cons_zero, List.set_cons_succ])))
          refine HP.both ?_ ?_
          · have hx1 := hnx.drew.alloc (.cells #[.int .i64 q0, .int .i64 q1, .int .i64 q2] 202)
            have hw1 := (owns_nx3 hw (Nx.refl wr).drew).alloc (.cells #[.int .i64 q0, .int .i64 q1, .int .i64 q2] 202)
            have bz := (bg.nx (Nx.refl wr).drew).alloc (.cells #[.int .i64 q0, .int .i64 q1, .int .i64 q2] 202)
            have HNW := Lib.hid (news3 wr.drew 202 (.int .i64 q0) (.int .i64 q1) (.int .i64 q2))
            have hlt := bg.lt
            refine CallStep.mk (by rfl) (fun K hK => ?_)
            go_simp
            refine hK.out _ _ (by exact ⟨(hnx.drew.cell (p := ⟨b, off + p, none⟩) hbw).trans m0, (hnx.drew.cell (p := ⟨b, off + (p + 1), none⟩) hbw).trans m1, (hnx.drew.cell (p := ⟨b, off + (p + 2), none⟩) hbw).trans m2⟩) ?_
            clear hK K
            try simp only [Act.put, List.setIfInBounds_toArray, List.set_cons_zero, List.set_cons_succ]
            refine HP.call ?_
            refine CallStep.mk (by rfl) (fun K hK => ?_)
            go_simp
            refine hK.out _ _ (by exact ⟨(hx1.cell (p := ⟨b, off + p, none⟩) hbw).trans m0, (hx1.cell (p := ⟨b, off + (p + 1), none⟩) hbw).trans m1, (hx1.cell (p := ⟨b, off + (p + 2), none⟩) hbw).trans m2⟩) ?_
            clear hK K
            try simp only [Act.put, List.setIfInBounds_toArray, List.set_cons_zero, List.set_cons_succ]
            change HP _ _ _ _ _ _ (wr.drew.alloc (.cells #[.int .i64 q0, .int .i64 q1, .int .i64 q2] 202))
            generalize wr.drew.alloc (.cells #[.int .i64 q0, .int .i64 q1, .int .i64 q2] 202) = wz at *
            refine HP.call ?_
            refine CallStep.mk (by rfl) (fun K hK => ?_)
            refine wp_append_own wz _ _ 128 rfl w1.heap.size 202 i0 _ 3 24 Tryz.underlying128 hi0 hz0 hz1 hz2 rfl (by omega) v k _ rfl hw1 ⟨wr.heap.size, 0, none⟩ 1 1 [.int .i64 q0, .int .i64 q1, .int .i64 q2] rfl rfl HNW.out HO.out (by unfold maxLen; omega) (by omega) hx1.size ?_
            intro v2 w2 hw2 hg2 _
            obtain ⟨g2, cp2, rfl, _, _⟩ := hw2.form (by omega)
            have hx2 : Nx w1 w2 := Below.grown hx1 hg2 hx1.size (fun k hk => (hw1.lt k hk).1)
            have bg2 : Box w2 w1.heap.size 130 #[.int .i64 n0, .int .i64 n1, .int .i64 n2, v] := bz.grown hg2 (owns_ne hw1 bz)
            refine hK.out _ _ (by exact ⟨(hx2.cell (p := ⟨b, off + p, none⟩) hbw).trans m0, (hx2.cell (p := ⟨b, off + (p + 1), none⟩) hbw).trans m1, (hx2.cell (p := ⟨b, off + (p + 2), none⟩) hbw).trans m2⟩) ?_
            clear hK K
            try simp only [Act.put, List.setIfInBounds_toArray, List.set_cons_zero, List.set_cons_succ]
            repeat (first | (refine HP.take (v := ?_) (by rfl) ?_ ?_; rotate_left; (· (intro w hSw; (try dsimp only at hSw); go_simp; try with_reducible rfl)); (try simp only [Act.put, List.setIfInBounds_toArray, List.set_cons_zero, List.set_cons_succ])) | (refine HP.skip (by rfl) ?_; (try simp only [Act.put, List.setIfInBounds_toArray, List.set_cons_zero, List.set_cons_succ])))
            obtain ⟨_, _, _, d3⟩ := bg2.d4
            have f3 := bg2.frozen 3
            refine HP.call ?_
            refine CallStep.mk (by rfl) (fun K hK => ?_)
            go_simp
            have hx3 := hx2.setCell (p := ⟨w1.heap.size, 3, none⟩) hgG (.slice (some ⟨g2, 0, none⟩) (k + 1) cp2)
            refine hK.out _ _ (by exact ⟨(hx3.cell (p := ⟨b, off + p, none⟩) hbw).trans m0, (hx3.cell (p := ⟨b, off + (p + 1), none⟩) hbw).trans m1, (hx3.cell (p := ⟨b, off + (p + 2), none⟩) hbw).trans m2⟩) ?_
            clear hK K
            try simp only [Act.put, List.setIfInBounds_toArray, List.set_cons_zero, List.set_cons_succ]
            refine HP.done ?_
            clear hw1a hw1b hw1c hw2a hw2b hw3a hw3b hw4a hw4b
            have bg3 := bg2.set 3 (.slice (some ⟨g2, 0, none⟩) (k + 1) cp2)
            have hw3 := owns_far (u := (.slice (some ⟨g2, 0, none⟩) (k + 1) cp2)) (i := 3) hw2 bg2
            clear d3 f3 c3
            go_wp2
            go_roundw
            case rel =>
              refine ⟨k + 1, p + 3, _, by omega, Lib.hid (by have := HPp.out; omega), by go_num, bg3, ?_, hx3⟩
              rw [chsV_succ, HQ.out]; exact hw3
            case measure => simp [intOf]; omega
          · have hx1 := hnx.drew.alloc (.cells #[.int .i64 q0, .int .i64 q1, .int .i64 q2] 202)
            have hw1 := (owns_nx3 hw (Nx.refl wr).drew).alloc (.cells #[.int .i64 q0, .int .i64 q1, .int .i64 q2] 202)
            have bz := (bg.nx (Nx.refl wr).drew).alloc (.cells #[.int .i64 q0, .int .i64 q1, .int .i64 q2] 202)
            have HNW := Lib.hid (news3 wr.drew 202 (.int .i64 q0) (.int .i64 q1) (.int .i64 q2))
            have hlt := bg.lt
            refine CallStep.mk (by rfl) (fun K hK => ?_)
            go_simp
            refine hK.out _ _ (by exact ⟨(hx1.cell (p := ⟨b, off + p, none⟩) hbw).trans m0, (hx1.cell (p := ⟨b, off + (p + 1), none⟩) hbw).trans m1, (hx1.cell (p := ⟨b, off + (p + 2), none⟩) hbw).trans m2⟩) ?_
            clear hK K
            try simp only [Act.put, List.setIfInBounds_toArray, List.set_cons_zero, List.set_cons_succ]
            refine HP.call ?_
            refine CallStep.mk (by rfl) (fun K hK => ?_)
            go_simp
            refine hK.out _ _ (by exact ⟨(hx1.cell (p := ⟨b, off + p, none⟩) hbw).trans m0, (hx1.cell (p := ⟨b, off + (p + 1), none⟩) hbw).trans m1, (hx1.cell (p := ⟨b, off + (p + 2), none⟩) hbw).trans m2⟩) ?_
            clear hK K
            try simp only [Act.put, List.setIfInBounds_toArray, List.set_cons_zero, List.set_cons_succ]
            change HP _ _ _ _ _ _ (wr.drew.alloc (.cells #[.int .i64 q0, .int .i64 q1, .int .i64 q2] 202))
            generalize wr.drew.alloc (.cells #[.int .i64 q0, .int .i64 q1, .int .i64 q2] 202) = wz at *
            refine HP.call ?_
            refine CallStep.mk (by rfl) (fun K hK => ?_)
            refine wp_append_own wz _ _ 128 rfl w1.heap.size 202 i0 _ 3 24 Tryz.underlying128 hi0 hz0 hz1 hz2 rfl (by omega) v k _ rfl hw1 ⟨wr.heap.size, 0, none⟩ 1 1 [.int .i64 q0, .int .i64 q1, .int .i64 q2] rfl rfl HNW.out HO.out (by unfold maxLen; omega) (by omega) hx1.size ?_
            intro v2 w2 hw2 hg2 _
            obtain ⟨g2, cp2, rfl, _, _⟩ := hw2.form (by omega)
            have hx2 : Nx w1 w2 := Below.grown hx1 hg2 hx1.size (fun k hk => (hw1.lt k hk).1)
            have bg2 : Box w2 w1.heap.size 130 #[.int .i64 n0, .int .i64 n1, .int .i64 n2, v] := bz.grown hg2 (owns_ne hw1 bz)
            refine hK.out _ _ (by exact ⟨(hx2.cell (p := ⟨b, off + p, none⟩) hbw).trans m0, (hx2.cell (p := ⟨b, off + (p + 1), none⟩) hbw).trans m1, (hx2.cell (p := ⟨b, off + (p + 2), none⟩) hbw).trans m2⟩) ?_
            clear hK K
            try simp only [Act.put, List.setIfInBounds_toArray, List.set_cons_zero, List.set_cons_succ]
            repeat (first | (refine HP.take (v := ?_) (by rfl) ?_ ?_; rotate_left; (· (intro w hSw; (try dsimp only at hSw); go_simp; try with_reducible rfl)); (try simp only [Act.put, List.setIfInBounds_toArray, List.set_cons_zero, List.set_cons_succ])) | (refine HP.skip (by rfl) ?_; (try simp only [Act.put, List.setIfInBounds_toArray, List.set_cons_zero, List.set_cons_succ])))
            obtain ⟨_, _, _, d3⟩ := bg2.d4
            have f3 := bg2.frozen 3
            refine HP.call ?_
            refine CallStep.mk (by rfl) (fun K hK => ?_)
            go_simp
            have hx3 := hx2.setCell (p := ⟨w1.heap.size, 3, none⟩) hgG (.slice (some ⟨g2, 0, none⟩) (k + 1) cp2)
            refine hK.out _ _ (by exact ⟨(hx3.cell (p := ⟨b, off + p, none⟩) hbw).trans m0, (hx3.cell (p := ⟨b, off + (p + 1), none⟩) hbw).trans m1, (hx3.cell (p := ⟨b, off + (p + 2), none⟩) hbw).trans m2⟩) ?_
            clear hK K
            try simp only [Act.put, List.setIfInBounds_toArray, List.set_cons_zero, List.set_cons_succ]
            refine HP.done ?_
            clear hw1a hw1b hw1c hw2a hw2b hw3a hw3b hw4a hw4b
            have bg3 := bg2.set 3 (.slice (some ⟨g2, 0, none⟩) (k + 1) cp2)
            have hw3 := owns_far (u := (.slice (some ⟨g2, 0, none⟩) (k + 1) cp2)) (i := 3) hw2 bg2
            clear d3 f3 c3
            go_wp2
            go_roundw
            case rel =>
              refine ⟨k + 1, p + 3, _, by omega, Lib.hid (by have := HPp.out; omega), by go_num, bg3, ?_, hx3⟩
              rw [chsV_succ, HQ.out]; exact hw3
            case measure => simp [intOf]; omega
        · obtain rfl : p = ns.length := by omega
          have hkN : k = ns.length / 3 - 1 := by have := HPp.out; omega
          have hlen := chOf_len ns k
          have hw' : wr.ownsRow w1.heap.size 202 3 v (chOf ns k).length (chsV (chOf ns k)) := by rw [hlen]; exact hw
          obtain ⟨A2, cp9, rfl, hSl⟩ := owns_slC hw'
          have HQ4 := Lib.hid (show sgOf ns = (n0, n1, n2, chOf ns k) by unfold sgOf; rw [Hn0.out, Hn1.out, Hn2.out, ← hkN])
          have hcl9 : (chOf ns k).length ≤ 1048576 := by rw [hlen]; have := HNL.out; omega
          have bw := b1.nx hnx
          have hxr := hxw.trans hnx
          have hgl : w.heap.size < w1.heap.size := b1.lt
          clear hw hw' hlen hkN
          obtain ⟨x0, x1, x2, x3⟩ := bg.d4
          go_wp2_with fail
          refine (segRight_c n0 n1 n2 A2 cp9 _ (chOf ns k) _ hSl.row (Nat.le_refl _) hcl9).mono ?_
          rintro e w5 ⟨rfl, hnx5⟩
          have b5 := bw.nx hnx5
          have bg5 := bg.nx hnx5
          have hx5 := hxr.trans hnx5
          have hS5 := hSl.nx hnx5
          clear x0 x1 x2 x3
          obtain ⟨x0, x1, x2, x3⟩ := bg5.d4
          cases hf : segB n0 n1 n2 (chOf ns k) with
          | false =>
            have HF := Lib.hid (rdG_no HN.out (by unfold g4B; rw [HQ4.out]; exact hf))
            clear hf
            obtain ⟨c0, c1, c2, c3⟩ := b5.d4
            have f0 := b5.frozen 0
            have f1 := b5.frozen 1
            have f2 := b5.frozen 2
            have f3 := b5.frozen 3
            have hlt := b5.lt
            go_wp2_with fail
            refine wp_region_lex [false, false, true, false] (fun w' => w'.cell? ⟨0, 0, none⟩ = some (.iface 304 (.pointer (some a0)))) (by kernel_rfl) (by kernel_rfl) rfl (by kernel_rfl) (fun _ _ d _ _ h => by cases d <;> exact h) (by exact ((hx5.drew).cell (p := ⟨0, 0, none⟩) hg0).trans e0) ?_
            repeat (first | (refine HL.take (v := ?_) (by rfl) ?_ ?_; rotate_left; (· (intro w hSw; (try dsimp only at hSw); go_simp; try with_reducible rfl)); (try simp only [Act.put, List.setIfInBounds_toArray, List.set_cons_zero, List.set_cons_succ])) | (refine HL.skip (by rfl) ?_; (try simp only [Act.put, List.setIfInBounds_toArray, List.set_cons_zero, List.set_cons_succ])))
            refine HL.call (by rfl) (fun K hK => ?_)
            go_simp
            refine hK.out _ _ (by exact (put4_nx hx5.drew (Nat.le_refl w.heap.size) (.int .i64 0) (.int .i64 0) (.int .i64 0) (.slice none 0 0)).cell (p := ⟨0, 0, none⟩) hg0 |>.trans e0) ?_
            clear hK K
            try simp only [Act.put, List.setIfInBounds_toArray, List.set_cons_zero, List.set_cons_succ]
            repeat (first | (refine HL.take (v := ?_) (by rfl) ?_ ?_; rotate_left; (· (intro w hSw; (try dsimp only at hSw); go_simp; try with_reducible rfl)); (try simp only [Act.put, List.setIfInBounds_toArray, List.set_cons_zero, List.set_cons_succ])) | (refine HL.skip (by rfl) ?_; (try simp only [Act.put, List.setIfInBounds_toArray, List.set_cons_zero, List.set_cons_succ])))
            refine HL.done ?_
            clear c0 c1 c2 c3 f0 f1 f2 f3
            go_wp2
            have q := (put4_box b5 (.int .i64 0) (.int .i64 0) (.int .i64 0) (.slice none 0 0))
            have hnf := (put4_nx hx5 (Nat.le_refl w.heap.size) (.int .i64 0) (.int .i64 0) (.int .i64 0) (.slice none 0 0)).drew
            change bodyPost _ _ _ _ _ (World.drew (put4 w5 w.heap.size (.int .i64 0) (.int .i64 0) (.int .i64 0) (.slice none 0 0)))
            change Box (World.drew (put4 w5 w.heap.size (.int .i64 0) (.int .i64 0) (.int .i64 0) (.slice none 0 0))) _ _ _ at q
            generalize World.drew (put4 w5 w.heap.size (.int .i64 0) (.int .i64 0) (.int .i64 0) (.slice none 0 0)) = Wf at *
            obtain ⟨g0, g1, g2, g3⟩ := q.d4
            exact bodyPost_ret (v := .tuple #[.agg #[.int .i64 0, .int .i64 0, .int .i64 0, .slice none 0 0], .iface 304 (.pointer (some a0))]) (by simp [results, Tryz.results216, go_sem, g0, g1, g2, g3]) rfl (RetST.no HF.out hnf)
          | true =>
            have HF := Lib.hid (rdG_yes HN.out HOL.out (by unfold g4B; rw [HQ4.out]; exact hf))
            clear hf
            obtain ⟨c0, c1, c2, c3⟩ := b5.d4
            have f0 := b5.frozen 0
            have f1 := b5.frozen 1
            have f2 := b5.frozen 2
            have f3 := b5.frozen 3
            go_wp2
            have q := (put4_box b5 (.int .i64 n0) (.int .i64 n1) (.int .i64 n2) (.slice A2 (chOf ns k).length cp9))
            have hnf := (put4_nx hx5 (Nat.le_refl w.heap.size) (.int .i64 n0) (.int .i64 n1) (.int .i64 n2) (.slice A2 (chOf ns k).length cp9))
            have hsf := (hS5.put4 hgl (.int .i64 n0) (.int .i64 n1) (.int .i64 n2) (.slice A2 (chOf ns k).length cp9))
            change Sl (put4 w5 w.heap.size (.int .i64 n0) (.int .i64 n1) (.int .i64 n2) (.slice A2 (chOf ns k).length cp9)) _ _ _ _ _ at hsf
            change bodyPost _ _ _ _ _ (put4 w5 w.heap.size (.int .i64 n0) (.int .i64 n1) (.int .i64 n2) (.slice A2 (chOf ns k).length cp9))
            change Box (put4 w5 w.heap.size (.int .i64 n0) (.int .i64 n1) (.int .i64 n2) (.slice A2 (chOf ns k).length cp9)) _ _ _ at q
            generalize put4 w5 w.heap.size (.int .i64 n0) (.int .i64 n1) (.int .i64 n2) (.slice A2 (chOf ns k).length cp9) = Wf at *
            obtain ⟨g0, g1, g2, g3⟩ := q.d4
            exact bodyPost_ret (v := .tuple #[.agg #[.int .i64 n0, .int .i64 n1, .int .i64 n2, .slice A2 (chOf ns k).length cp9], .nilIface]) (by simp [results, Tryz.results216, go_sem, g0, g1, g2, g3]) rfl (RetST.yes HF.out HQ4.out (hsf.low (by omega)) hnf)
end Go.Proofs.YtehahodomfbpjaaGreatDoor
/- Values of loading: which vault a disk has. Nothing here speaks of memory. Conditions: none. -/
namespace Go.Proofs.YtehahodomfbpjaaGreatDoor
set_option linter.unusedVariables false
set_option maxRecDepth 100000
open Go.RowKit

def gR (q : G4) : SgR := ⟨q.1, q.2.1, q.2.2.1, none, 0, q.2.2.2⟩
/-- The segment that a sector has; what it is, zero of none. -/
def ldG (ss : List ByteArray) (ws : List (Int × ByteArray)) (x : Int) : Option G4 := rdG (readP ss ws x.toNat)
def ldS (ss : List ByteArray) (ws : List (Int × ByteArray)) (x : Int) : SgR := ((ldG ss ws x).map gR).getD sgZ
/-- The image's j-th number. -/
def oneN : Option (List Nat) → Option Int
  | some [x] => some (x : Int)
  | _ => none
def ldI (ss : List ByteArray) (ws : List (Int × ByteArray)) (j : Nat) : Option Int := oneN (rdN (readP ss ws (2 + j)))
def ldX (ss : List ByteArray) (ws : List (Int × ByteArray)) (j : Nat) : Int := (ldI ss ws j).getD 0
def zVl : Vl := ⟨0, 0, 0, 0, none, 0, [], none, 0, [], none, 0, [], none, 0, []⟩
def vlU (u : U6) (gs : List SgR) (im : List Int) : Vl := ⟨u.1, u.2.1, u.2.2.1, u.2.2.2.1, none, 0, u.2.2.2.2.1, none, 0, u.2.2.2.2.2, none, 0, gs, none, 0, im⟩
def ldOk (ss : List ByteArray) (ws : List (Int × ByteArray)) (u : U6) : Bool := (u.2.2.2.2.1.all fun x => (ldG ss ws x).isSome) && (List.range 8).all fun j => (ldI ss ws j).isSome
def ldW (ss : List ByteArray) (ws : List (Int × ByteArray)) (u : U6) : Vl := vlU u (u.2.2.2.2.1.map (ldS ss ws)) ((List.range 8).map (ldX ss ws))
/-- The vault of a disk that is right, and a code; what LoadVault answers. -/
def ldV (ss : List ByteArray) (ws : List (Int × ByteArray)) : Vl × Int :=
  match newU (rdU (readP ss ws 0)) (rdU (readP ss ws 1)) with
  | none => (zVl, 19)
  | some (u, _) => if ldOk ss ws u && (ldW ss ws u).ok then (ldW ss ws u, 0) else (zVl, 10)
def ldA (ss : List ByteArray) (ws : List (Int × ByteArray)) : Vl × Int := if diskB ss ws then ldV ss ws else (zVl, 1)
theorem ldA_bad {ss : List ByteArray} {ws : List (Int × ByteArray)} (h : diskB ss ws = false) : ldA ss ws = (zVl, 1) := by unfold ldA; rw [h]; rfl
theorem ldA_yes {ss : List ByteArray} {ws : List (Int × ByteArray)} (h : diskB ss ws = true) : ldA ss ws = ldV ss ws := by unfold ldA; rw [h]; rfl
theorem ldV_none {ss : List ByteArray} {ws : List (Int × ByteArray)} (h : newU (rdU (readP ss ws 0)) (rdU (readP ss ws 1)) = none) : ldV ss ws = (zVl, 19) := by unfold ldV; rw [h]
theorem ldV_some {ss : List ByteArray} {ws : List (Int × ByteArray)} {u : U6} {s : Int} (h : newU (rdU (readP ss ws 0)) (rdU (readP ss ws 1)) = some (u, s)) :
    ldV ss ws = if ldOk ss ws u && (ldW ss ws u).ok then (ldW ss ws u, 0) else (zVl, 10) := by unfold ldV; rw [h]
theorem ldV_seg {ss : List ByteArray} {ws : List (Int × ByteArray)} {u : U6} {s : Int} {k : Nat} (h : newU (rdU (readP ss ws 0)) (rdU (readP ss ws 1)) = some (u, s)) (hk : k < u.2.2.2.2.1.length) (hg : ldG ss ws (u.2.2.2.2.1.getD k 0) = none) : ldV ss ws = (zVl, 10) := by
  rw [ldV_some h]
  have : (u.2.2.2.2.1.all fun x => (ldG ss ws x).isSome) = false := List.all_eq_false.2 ⟨u.2.2.2.2.1.getD k 0, by rw [List.getD_eq_getElem?_getD, List.getElem?_eq_getElem hk]; exact List.getElem_mem hk, by rw [hg]; simp⟩
  unfold ldOk; rw [this]; rfl
theorem ldV_img {ss : List ByteArray} {ws : List (Int × ByteArray)} {u : U6} {s : Int} {j : Nat} (h : newU (rdU (readP ss ws 0)) (rdU (readP ss ws 1)) = some (u, s)) (hj : j < 8) (hg : ldI ss ws j = none) : ldV ss ws = (zVl, 10) := by
  rw [ldV_some h]
  have : ((List.range 8).all fun j => (ldI ss ws j).isSome) = false := List.all_eq_false.2 ⟨j, by simpa using hj, by rw [hg]; simp⟩
  unfold ldOk; rw [this]; simp
theorem ldV_wrong {ss : List ByteArray} {ws : List (Int × ByteArray)} {u : U6} {s : Int} (h : newU (rdU (readP ss ws 0)) (rdU (readP ss ws 1)) = some (u, s)) (hv : (ldW ss ws u).ok = false) : ldV ss ws = (zVl, 10) := by
  rw [ldV_some h, hv]; simp
theorem ldV_yes {ss : List ByteArray} {ws : List (Int × ByteArray)} {u : U6} {s : Int} (h : newU (rdU (readP ss ws 0)) (rdU (readP ss ws 1)) = some (u, s)) (ho : ldOk ss ws u = true) (hv : (ldW ss ws u).ok = true) : ldV ss ws = (ldW ss ws u, 0) := by
  rw [ldV_some h, ho, hv]; rfl
/-- The first k segments are read. -/
structure GsTo (ss : List ByteArray) (ws : List (Int × ByteArray)) (xs : List Int) (k : Nat) (gs : List SgR) : Prop where
  len : gs.length = k
  ok : ∀ j, j < k → (ldG ss ws (xs.getD j 0)).isSome = true
  v : gs.map SgR.v = (xs.take k).map fun x => (ldS ss ws x).v
theorem GsTo.nil (ss : List ByteArray) (ws : List (Int × ByteArray)) (xs : List Int) : GsTo ss ws xs 0 [] := ⟨rfl, fun j h => absurd h (by omega), rfl⟩
theorem GsTo.snoc {ss : List ByteArray} {ws : List (Int × ByteArray)} {xs : List Int} {k : Nat} {gs : List SgR} {q : G4} (h : GsTo ss ws xs k gs) (hk : k < xs.length) (hq : ldG ss ws (xs.getD k 0) = some q) (A : Option Addr) (c : Nat) :
    GsTo ss ws xs (k + 1) (gs ++ [⟨q.1, q.2.1, q.2.2.1, A, c, q.2.2.2⟩]) := by
  refine ⟨by rw [List.length_append, h.len]; rfl, fun j hj => ?_, ?_⟩
  · rcases Nat.lt_or_ge j k with hl | hl
    · exact h.ok j hl
    · obtain rfl : j = k := by omega
      rw [hq]; rfl
  · have e : xs[k] = xs.getD k 0 := by rw [List.getD_eq_getElem?_getD, List.getElem?_eq_getElem hk]; rfl
    rw [List.map_append, h.v, List.take_succ_eq_append_getElem hk, List.map_append]
    congr 1
    show [_] = [_]
    congr 1
    show _ = (ldS ss ws xs[k]).v
    unfold ldS
    rw [e, hq]; rfl
/-- The first k numbers of the image are read. -/
structure ImTo (ss : List ByteArray) (ws : List (Int × ByteArray)) (k : Nat) (im : List Int) : Prop where
  eq : im = (List.range k).map (ldX ss ws)
  ok : ∀ j, j < k → (ldI ss ws j).isSome = true
theorem ImTo.nil (ss : List ByteArray) (ws : List (Int × ByteArray)) : ImTo ss ws 0 [] := ⟨rfl, fun j h => absurd h (by omega)⟩
theorem ImTo.len {ss : List ByteArray} {ws : List (Int × ByteArray)} {k : Nat} {im : List Int} (h : ImTo ss ws k im) : im.length = k := by rw [h.eq]; simp
theorem ImTo.snoc {ss : List ByteArray} {ws : List (Int × ByteArray)} {k : Nat} {im : List Int} {x : Int} (h : ImTo ss ws k im) (hx : ldI ss ws k = some x) : ImTo ss ws (k + 1) (im ++ [x]) := by
  refine ⟨?_, fun j hj => ?_⟩
  · rw [List.range_succ, List.map_append, h.eq]
    congr 1
    show [x] = [ldX ss ws k]
    unfold ldX; rw [hx]; rfl
  · rcases Nat.lt_or_ge j k with hl | hl
    · exact h.ok j hl
    · obtain rfl : j = k := by omega
      rw [hx]; rfl
theorem ldOk_of {ss : List ByteArray} {ws : List (Int × ByteArray)} {u : U6} {gs : List SgR} {im : List Int} (h : GsTo ss ws u.2.2.2.2.1 u.2.2.2.2.1.length gs) (h2 : ImTo ss ws 8 im) : ldOk ss ws u = true := by
  unfold ldOk
  rw [Bool.and_eq_true]
  refine ⟨List.all_eq_true.2 fun x hx => ?_, List.all_eq_true.2 fun j hj => h2.ok j (by simpa using hj)⟩
  obtain ⟨j, hj, e⟩ := List.getElem_of_mem hx
  have := h.ok j hj
  rw [List.getD_eq_getElem?_getD, List.getElem?_eq_getElem hj] at this
  simpa [e] using this
/-- What is read, in memory, is what loading says. -/
theorem ldW_s {ss : List ByteArray} {ws : List (Int × ByteArray)} {g b p t : Int} {xs : List Int} {ms : List Mrk} {gs : List SgR} {im : List Int} (h : GsTo ss ws xs xs.length gs) (h2 : ImTo ss ws 8 im) (A : Option Addr) (c : Nat) (A2 : Option Addr) (c2 : Nat) (A3 : Option Addr) (c3 : Nat) (A4 : Option Addr) (c4 : Nat) :
    VlS (ldW ss ws (g, b, p, t, xs, ms)) ⟨g, b, p, t, A, c, xs, A2, c2, ms, A3, c3, gs, A4, c4, im⟩ :=
  ⟨rfl, rfl, rfl, rfl, rfl, rfl, by
    show gs.map SgR.v = (xs.map (ldS ss ws)).map SgR.v
    rw [h.v, List.take_length, List.map_map]; rfl, h2.eq⟩
theorem rdN_le {t : ByteArray} {ns : List Nat} (h : rdN t = some ns) : ns.length ≤ t.size := by
  unfold rdN at h
  cases ho : opensB t with
  | false => rw [ho] at h; cases h
  | true =>
    rw [ho] at h
    unfold numsO at h
    by_cases hc : (bodyOf t).data.toList.length % 6 = 0 ∧ digL (bodyOf t).data.toList = true
    · simp only [if_true, if_pos hc] at h
      injection h with h
      subst h
      rw [numsOf_len, ← ba_size]
      have := bodyOf_size t
      omega
    · simp only [if_true, if_neg hc] at h; cases h
theorem rdG_short {t : ByteArray} {q : G4} (h : rdG t = some q) : q.2.2.2.length ≤ t.size := by
  unfold rdG at h
  cases hr : rdN t with
  | none => rw [hr] at h; cases h
  | some ns =>
    rw [hr] at h
    have h2 : (if (okLen ns && g4B (sgOf ns)) = true then some (sgOf ns) else none) = some q := h
    have hn := rdN_le hr
    split at h2
    · injection h2 with h2
      subst h2
      show (chOf ns (ns.length / 3 - 1)).length ≤ _
      rw [chOf_len]; omega
    · cases h2
/-- Rows of changes told apart. -/
def Dj (gs : List SgR) : Prop := ∀ i j, i < gs.length → j < gs.length → i ≠ j → 0 < (gs.getD i sgZ).cs.length → 0 < (gs.getD j sgZ).cs.length → (gs.getD i sgZ).A ≠ (gs.getD j sgZ).A
theorem Dj.nil : Dj [] := fun i j h => absurd h (by simp)
theorem Dj.snoc {w : World} {lo : Nat} {gs : List SgR} {g : SgR} {w' : World} (h : Dj gs) (hc : ∀ k, k < gs.length → Sl w lo (gs.getD k sgZ).A 202 ((gs.getD k sgZ).cs.length * 3) (chAt (gs.getD k sgZ).cs)) (hg : Sl w' w.heap.size g.A 202 (g.cs.length * 3) (chAt g.cs)) : Dj (gs ++ [g]) := by
  have key : ∀ i, i < gs.length → 0 < (gs.getD i sgZ).cs.length → 0 < g.cs.length → (gs.getD i sgZ).A ≠ g.A := fun i hi h1 h2 e => by
    obtain ⟨b, e1, _, ho⟩ := hc i hi (by omega)
    obtain ⟨b', e2, hl, _⟩ := hg (by omega)
    have := ho.lt
    rw [e1, e2] at e
    injection e with e
    injection e with e _ _
    omega
  intro i j hi hj hne h1 h2
  rw [List.length_append] at hi hj
  simp only [List.length_cons, List.length_nil] at hi hj
  by_cases ei : i < gs.length
  · rw [getD_app_lt gs g ei] at h1 ⊢
    by_cases ej : j < gs.length
    · rw [getD_app_lt gs g ej] at h2 ⊢
      exact h i j ei ej hne h1 h2
    · obtain rfl : j = gs.length := by omega
      rw [getD_app] at h2 ⊢
      exact key i ei h1 h2
  · obtain rfl : i = gs.length := by omega
    rw [getD_app] at h1 ⊢
    by_cases ej : j < gs.length
    · rw [getD_app_lt gs g ej] at h2 ⊢
      exact fun e => key j ej h2 h1 e.symm
    · omega
/-- A vault of the call's own, its rows told apart: table and marks lie below mid, the rest from there on. -/
structure VlP (w : World) (lo mid hi : Nat) (V : Vl) : Prop where
  tab : Sr w lo mid V.A 3 V.xs.length (inAt V.xs)
  mks : Sr w lo mid V.A2 199 (V.ms.length * 2) (mrAt V.ms)
  row : Sr w mid hi V.A3 130 (V.gs.length * 4) (sgAt V.gs)
  chs : ∀ k, k < V.gs.length → Sr w mid hi (V.gs.getD k sgZ).A 202 ((V.gs.getD k sgZ).cs.length * 3) (chAt (V.gs.getD k sgZ).cs)
  img : Sr w mid hi V.A4 3 V.im.length (inAt V.im)
  dj : Dj V.gs
  cap : V.xs.length ≤ V.c
  cap3 : V.gs.length ≤ V.c3
  le : lo ≤ mid
  le2 : mid ≤ hi
theorem VlP.nx {w w' : World} {lo mid hi : Nat} {V : Vl} (h : VlP w lo mid hi V) (hb : Nx w w') : VlP w' lo mid hi V := ⟨h.tab.nx hb, h.mks.nx hb, h.row.nx hb, fun k hk => (h.chs k hk).nx hb, h.img.nx hb, h.dj, h.cap, h.cap3, h.le, h.le2⟩
theorem Sr.low {w : World} {lo lo' hi m : Nat} {A : Option Addr} {t : TypeId} {f : Nat → Value} (h : Sr w lo hi A t m f) (hl : lo' ≤ lo) : Sr w lo' hi A t m f := fun hm => by
  obtain ⟨g, e, h1, h2, ho⟩ := h hm; exact ⟨g, e, by omega, h2, ho⟩
theorem Sr.up {w : World} {lo hi hi' m : Nat} {A : Option Addr} {t : TypeId} {f : Nat → Value} (h : Sr w lo hi A t m f) (hl : hi ≤ hi') : Sr w lo hi' A t m f := fun hm => by
  obtain ⟨g, e, h1, h2, ho⟩ := h hm; exact ⟨g, e, h1, by omega, ho⟩
theorem VlP.own {w : World} {lo mid hi : Nat} {V : Vl} (h : VlP w lo mid hi V) : VlO w lo V :=
  ⟨h.tab.sl, h.mks.sl, ⟨(h.row.low h.le).sl, fun k hk => ((h.chs k hk).low h.le).sl⟩, (h.img.low h.le).sl, h.cap, h.cap3⟩
theorem VlP.low {w : World} {lo lo' mid hi : Nat} {V : Vl} (h : VlP w lo mid hi V) (hl : lo' ≤ lo) : VlP w lo' mid hi V := ⟨h.tab.low hl, h.mks.low hl, h.row, h.chs, h.img, h.dj, h.cap, h.cap3, by have := h.le; omega, h.le2⟩
theorem VlP.up {w : World} {lo mid hi hi' : Nat} {V : Vl} (h : VlP w lo mid hi V) (hl : hi ≤ hi') : VlP w lo mid hi' V := ⟨h.tab, h.mks, h.row.up hl, fun k hk => (h.chs k hk).up hl, h.img.up hl, h.dj, h.cap, h.cap3, h.le, by have := h.le2; omega⟩
theorem VlP.zero (w : World) {lo hi : Nat} (h : lo ≤ hi) : VlP w lo lo hi zVl := ⟨fun h => absurd h (by simp [zVl]), fun h => absurd h (by simp [zVl]), fun h => absurd h (by simp [zVl]), fun k h => absurd h (by simp [zVl]), fun h => absurd h (by simp [zVl]), Dj.nil, Nat.le_refl _, Nat.le_refl _, Nat.le_refl _, h⟩
/-- What LoadVault leaves. -/
def RetLd (w : World) (y : Vl × Int) (e : Ending) (w' : World) : Prop :=
  ∃ V' mid, e = .returned (.tuple #[V'.v, .int .i64 y.2]) ∧ VlS y.1 V' ∧ VlP w' w.heap.size mid w'.heap.size V' ∧ Nx w w'
theorem VlS.refl (V : Vl) : VlS V V := ⟨rfl, rfl, rfl, rfl, rfl, rfl, rfl, rfl⟩
/-- How large a vault is that loading answers. -/
theorem ldV_size {ss : List ByteArray} {ws : List (Int × ByteArray)} (hD : diskB ss ws = true) : (ldV ss ws).1 = zVl ∨ (VltY (ldV ss ws).1.g (ldV ss ws).1.b (ldV ss ws).1.p (ldV ss ws).1.t (ldV ss ws).1.xs (ldV ss ws).1.ms (ldV ss ws).1.gs (ldV ss ws).1.im ∧ (ldV ss ws).2 = 0 ∧ ∀ k, k < (ldV ss ws).1.gs.length → ((ldV ss ws).1.gs.getD k sgZ).cs.length ≤ 300) := by
  cases hu : newU (rdU (readP ss ws 0)) (rdU (readP ss ws 1)) with
  | none => rw [ldV_none hu]; exact .inl rfl
  | some us =>
    obtain ⟨u, s⟩ := us
    rw [ldV_some hu]
    split
    · rename_i hc
      rw [Bool.and_eq_true] at hc
      refine .inr ⟨vltB_yes hc.2, rfl, fun k hk => ?_⟩
      have hl : (ldW ss ws u).gs.length = u.2.2.2.2.1.length := by simp [ldW, vlU]
      have hk' : k < u.2.2.2.2.1.length := by rw [← hl]; exact hk
      have e : (ldW ss ws u).gs.getD k sgZ = ldS ss ws u.2.2.2.2.1[k] := by
        show (u.2.2.2.2.1.map (ldS ss ws)).getD k sgZ = _
        rw [List.getD_eq_getElem?_getD, List.getElem?_map, List.getElem?_eq_getElem hk']; rfl
      show ((ldW ss ws u).gs.getD k sgZ).cs.length ≤ 300
      rw [e]
      unfold ldS
      cases hg : ldG ss ws u.2.2.2.2.1[k] with
      | none => exact Nat.zero_le _
      | some q =>
        have h1 := rdG_short hg
        have h2 := readP_size hD u.2.2.2.2.1[k].toNat
        show q.2.2.2.length ≤ 300
        omega
    · exact .inl rfl
theorem ssum_bound {gs : List SgR} {m : Nat} (h : ∀ k, k < gs.length → (gs.getD k sgZ).cs.length ≤ m) : ∀ k, k ≤ gs.length → ssum gs k ≤ k * m
  | 0, _ => by rw [ssum_zero]; omega
  | k + 1, hk => by
    have h1 := ssum_bound h k (by omega)
    have h2 := h k (by omega)
    rw [ssum_succ (by omega), Nat.succ_mul]; omega
/-- The bounds that the laws' walks need. -/
structure VlB (V : Vl) : Prop where
  xs : V.xs.length ≤ 20
  ms : V.ms.length ≤ 4
  gs : V.gs.length ≤ 20
  cs : ∀ k, k < V.gs.length → (V.gs.getD k sgZ).cs.length ≤ 300
  im : V.im.length ≤ 8
  sum : ssum V.gs V.gs.length ≤ 6000
  mka : AllM V.ms
theorem VlB.zero : VlB zVl := ⟨by simp [zVl], by simp [zVl], by simp [zVl], fun k h => absurd h (by simp [zVl]), by simp [zVl], Nat.zero_le _, fun k => by simp [zVl, mrZ]⟩
theorem VlB.n {V : Vl} (h : VlB V) : VlN V 1048576 := ⟨by have := h.xs; omega, by have := h.ms; omega, by have := h.gs; omega, fun k hk => by have := h.cs k hk; omega, by have := h.im; omega⟩
theorem VlB.s {V V' : Vl} (h : VlB V) (hs : VlS V V') : VlB V' :=
  have hc : ∀ k, k < V'.gs.length → (V'.gs.getD k sgZ).cs.length ≤ 300 := v_cs hs.gs h.cs
  ⟨by rw [hs.xs]; exact h.xs, by rw [hs.ms]; exact h.ms, by rw [hs.len]; exact h.gs, hc, by rw [hs.im]; exact h.im, by
    have h1 := ssum_bound hc _ (Nat.le_refl _)
    have h2 := h.gs
    rw [← hs.len] at h2
    have := Nat.mul_le_mul_right 300 h2
    omega, by rw [hs.ms]; exact h.mka⟩
theorem msB_all {ms : List Mrk} (h : msB ms = true) : AllM ms := fun k => by
  rcases Nat.lt_or_ge k ms.length with hk | hk
  · have h1 := (msB_yes h).2 k hk
    unfold okMk mkB nmB at h1
    simp only [Bool.and_eq_true] at h1
    have := inB_yes h1.1.1.1
    omega
  · rw [List.getD_eq_getElem?_getD, List.getElem?_eq_none hk]; simp [mrZ]
theorem ldV_b {ss : List ByteArray} {ws : List (Int × ByteArray)} (hD : diskB ss ws = true) : VlB (ldV ss ws).1 := by
  rcases ldV_size hD with h | ⟨hy, _, hc⟩
  · rw [h]; exact VlB.zero
  · obtain ⟨_, _, _, _, h5, h6⟩ := superB_yes hy.super
    have h1 := (tbB_yes h5).1
    have h2 := (msB_yes h6).1
    have h3 := hy.len
    have h4 := (contB_yes hy.cont).1
    refine ⟨h1, h2, by omega, hc, by omega, ?_, msB_all h6⟩
    have h7 := ssum_bound hc _ (Nat.le_refl _)
    have := Nat.mul_le_mul_right 300 (show (ldV ss ws).1.gs.length ≤ 20 by omega)
    omega
end Go.Proofs.YtehahodomfbpjaaGreatDoor
/- Rows of segments of the call's own: they grow by one, and their last one is turned. Conditions: those of each theorem. -/
namespace Go.Proofs.YtehahodomfbpjaaGreatDoor
set_option linter.unusedVariables false
set_option maxRecDepth 100000
open Go.RowKit

def gCs (g : SgR) : List Value := [.int .i64 g.f, .int .i64 g.t, .int .i64 g.m, .slice g.A g.cs.length g.c]
def gVs (gs : List SgR) : List Value := gs.flatMap gCs
theorem gVs_len : ∀ gs : List SgR, (gVs gs).length = gs.length * 4
  | [] => rfl
  | g :: gs => by
    show (gCs g ++ gVs gs).length = _
    rw [List.length_append, gVs_len gs, List.length_cons]
    unfold gCs
    simp only [List.length_cons, List.length_nil]; omega
theorem gVs_snoc (gs : List SgR) (g : SgR) : gVs (gs ++ [g]) = gVs gs ++ gCs g := by
  unfold gVs; rw [List.flatMap_append]; simp
theorem gVs_get : ∀ (gs : List SgR) (i : Nat), i < gs.length * 4 → (gVs gs)[i]? = some (sgAt gs i)
  | [], i, h => by simp at h
  | g :: gs, i, h => by
    show (gCs g ++ gVs gs)[i]? = _
    by_cases hi : i < 4
    · rw [List.getElem?_append_left (by simpa [gCs] using hi)]
      match i, hi with
      | 0, _ => rfl
      | 1, _ => rfl
      | 2, _ => rfl
      | 3, _ => rfl
    · rw [List.getElem?_append_right (by simpa [gCs] using hi)]
      show (gVs gs)[i - 4]? = _
      rw [gVs_get gs (i - 4) (by simp at h; omega)]
      have e1 : (i - 4) % 4 = i % 4 := by omega
      have e2 : i / 4 = (i - 4) / 4 + 1 := by omega
      unfold sgAt
      rw [e1, e2, List.getD_cons_succ]
/-- The changes of segments lie in blocks of the call's own, from block B on. -/
def ChO (w : World) (B : Nat) (gs : List SgR) : Prop := ∀ k, k < gs.length → Sl w B (gs.getD k sgZ).A 202 ((gs.getD k sgZ).cs.length * 3) (chAt (gs.getD k sgZ).cs)
theorem ChO.nx {w w' : World} {B : Nat} {gs : List SgR} (h : ChO w B gs) (hb : Nx w w') : ChO w' B gs := fun k hk => (h k hk).nx hb
theorem Sl.rgO {w w' : World} {lo a b : Nat} {A : Option Addr} {t : TypeId} {m : Nat} {f : Nat → Value} (h : Sl w lo A t m f) (hb : Rg a b w w') (hd : b ≤ lo) : Sl w' lo A t m f := fun hm => by
  obtain ⟨g, e, hl, ho⟩ := h hm; exact ⟨g, e, hl, ho.rg hb (.inr (by omega))⟩
theorem ChO.rg {w w' : World} {B a b : Nat} {gs : List SgR} (h : ChO w B gs) (hb : Rg a b w w') (hd : b ≤ B) : ChO w' B gs := fun k hk => (h k hk).rgO hb hd
theorem ChO.snoc {w : World} {B : Nat} {gs : List SgR} {g : SgR} (h : ChO w B gs) (hg : Sl w B g.A 202 (g.cs.length * 3) (chAt g.cs)) : ChO w B (gs ++ [g]) := fun k hk => by
  rw [List.length_append] at hk
  simp only [List.length_cons, List.length_nil] at hk
  by_cases e : k < gs.length
  · rw [getD_pre gs [g] e]; exact h k e
  · obtain rfl : k = gs.length := by omega
    rw [getD_app]; exact hg
/-- A row of segments of the call's own, from block B on. -/
def RowS (w : World) (B : Nat) (v : Value) (gs : List SgR) : Prop := w.ownsRow B 130 4 v gs.length (gVs gs)
theorem RowS.new (w : World) {B : Nat} (hB : B ≤ w.heap.size) : RowS (w.alloc (.cells #[] 130)) B (.slice (some ⟨w.heap.size, 0, none⟩) 0 0) [] :=
  ⟨rfl, .inr ⟨_, 0, #[], rfl, hB, heap_alloc_new w _, by simp, by unfold maxLen; omega, rfl, rfl⟩⟩
theorem RowS.sl {w : World} {B : Nat} {v : Value} {gs : List SgR} (h : RowS w B v gs) : ∃ A c, v = .slice A gs.length c ∧ Sl w B A 130 (gs.length * 4) (sgAt gs) := by
  rcases h.2 with ⟨rfl, h0⟩ | ⟨g, cap, cur, rfl, hb, hg, hnc, _, hcs, htk⟩
  · exact ⟨none, 0, by rw [h0], fun hn => by omega⟩
  · refine ⟨_, cap, rfl, Sl.own ⟨cur, hg, by have := Nat.mul_le_mul_right 4 hnc; omega, fun i hi => ?_⟩ hb⟩
    have h1 : (cur.toList.take (gs.length * 4))[i]? = some (sgAt gs i) := by rw [htk]; exact gVs_get gs i hi
    rw [List.getElem?_take_of_lt hi] at h1
    simpa using h1
theorem RowS.nx {w w' : World} {B : Nat} {v : Value} {gs : List SgR} (h : RowS w B v gs) (hb : Nx w w') : RowS w' B v gs := by
  refine World.ownsRow.kept (row := none) h ⟨hb.os, hb.tape, hb.output, hb.size, fun i hi _ => hb.block i hi⟩ ?_
  cases hv : v.ownBlock with
  | none => exact .inl rfl
  | some g => exact .inr (by simp)
theorem RowS.rg {w w' : World} {B lo hi : Nat} {v : Value} {gs : List SgR} (h : RowS w B v gs) (hr : Rg lo hi w w') (hh : hi ≤ B) : RowS w' B v gs := by
  rcases h.2 with ⟨rfl, h0⟩ | ⟨g, cap, cur, rfl, hb, hg, r⟩
  · exact ⟨h.1, .inl ⟨rfl, h0⟩⟩
  · have hlt := (World.ownsRow.lt h g rfl).2
    exact ⟨h.1, .inr ⟨g, cap, cur, rfl, hb, (hr.block g hlt (.inr (by omega))).trans hg, r⟩⟩
theorem RowS.ne {w : World} {B g : Nat} {v : Value} {gs : List SgR} {t : TypeId} {m : Nat} {f : Nat → Value} (h : RowS w B v gs) (hb : Own w g t m f) (ht : t ≠ 130) : some g ≠ v.ownBlock := by
  intro he
  rcases h.2 with ⟨rfl, _⟩ | ⟨g', cap, cur, rfl, _, hg, _⟩
  · simp [Value.ownBlock] at he
  · obtain rfl : g = g' := by simpa [Value.ownBlock] using he
    obtain ⟨cs, hb, _⟩ := hb
    rw [hg] at hb
    injection hb with hb
    injection hb with _ hb
    exact ht hb.symm
/-- What an append of a segment leaves as it is. -/
structure GrewS (B : Nat) (w w' : World) : Prop where
  nx : ∀ a, Nx a w → a.heap.size ≤ B → Nx a w'
  rg : ∀ lo hi a, Rg lo hi a w → a.heap.size ≤ B → Rg lo hi a w'
  own : ∀ g t m f, t ≠ 130 → Own w g t m f → Own w' g t m f
  box : ∀ g t xs, t ≠ 130 → Box w g t xs → Box w' g t xs
  size : w.heap.size ≤ w'.heap.size
  low : Below B w w'
theorem GrewS.sl {B : Nat} {w w' : World} (h : GrewS B w w') {lo : Nat} {A : Option Addr} {t : TypeId} {m : Nat} {f : Nat → Value} (hs : Sl w lo A t m f) (ht : t ≠ 130) : Sl w' lo A t m f := fun hm => by
  obtain ⟨g, e, hl, ho⟩ := hs hm
  exact ⟨g, e, hl, h.own g t m f ht ho⟩
theorem GrewS.cho {B B' : Nat} {w w' : World} (h : GrewS B w w') {gs : List SgR} (hs : ChO w B' gs) : ChO w' B' gs := fun k hk => h.sl (hs k hk) (by decide)
set_option maxHeartbeats 1000000 in
/-- append of one segment at the operation, for the walk. -/
theorem wpList_addS {w : World} {ops : Array Oper} {rest : List Oper} {o : Oper} {a : Act} {Q : Exit → Act → World → Prop}
    (hgd : o.guard = none) (s x : Operand) (ho : o.op = .call { callee := .builtin .append, args := #[s, x], argTypes := #[31, 31] })
    (B gd : Nat) (v : Value) (gs : List SgR) (g : SgR) (hs : a.eval s = v) (hx : a.eval x = .slice (some ⟨gd, 0, none⟩) 1 1) (hown : RowS w B v gs) (hbx : Box w gd 130 #[.int .i64 g.f, .int .i64 g.t, .int .i64 g.m, .slice g.A g.cs.length g.c])
    (hl : gs.length ≤ 1048576) (hB : B ≤ w.heap.size)
    (hK : ∀ A' k' w', RowS w' B (.slice A' (gs.length + 1) k') (gs ++ [g]) → GrewS B w w' → wpList Tryz.prog ops Q rest (a.put o.dst (.slice A' (gs.length + 1) k')) w') :
    wpList Tryz.prog ops Q (o :: rest) a w := by
  obtain ⟨i0, hi0, hz0, hz1, hz2⟩ := info_parts info_sg
  refine wpList_append_own w hgd s x 31 ho B 130 i0 _ 4 48 Tryz.underlying31 hi0 hz0 hz1 hz2 rfl (by omega) v gs.length _ hs hown ⟨gd, 0, none⟩ 1 1 (gCs g) hx rfl (fun j u hj => ?_) (fun u hu => by unfold gCs at hu; simp only [List.mem_cons, List.not_mem_nil, or_false] at hu; rcases hu with rfl | rfl | rfl | rfl <;> rfl) (by unfold maxLen; omega) (by omega) hB ?_
  · rw [addr_add', Nat.zero_add, hbx.cell j]
    rw [← hj]
    unfold gCs
    rcases j with _ | _ | _ | _ | j <;> simp
  · intro v' w' hw' hg' _
    have hr : RowS w' B v' (gs ++ [g]) := by
      unfold RowS
      rw [gVs_snoc, List.length_append]
      exact hw'
    obtain ⟨A', k', rfl, _⟩ := hr.sl
    rw [List.length_append] at hr ⊢
    have hrow : ∀ k, Value.ownBlock v = some k → B ≤ k := fun k hk => (World.ownsRow.lt hown k hk).1
    have hown' : ∀ g t m f, t ≠ 130 → Own w g t m f → Own w' g t m f := fun g t m f ht ho => ho.of_block (hg'.block g ho.lt (hown.ne ho ht))
    refine hK A' k' w' hr ⟨fun b hb hbB => Below.grown hb hg' hb.size (fun k hk => Nat.le_trans hbB (hrow k hk)), fun lo hi b hb hbB => ?_, hown', fun g t xs ht hbg => ?_, hg'.size, ⟨hg'.os, hg'.tape, hg'.output, hg'.size, fun k hk => hg'.block k (by omega) (fun e => by have := hrow k e.symm; omega)⟩⟩
    · refine ⟨hg'.os.trans hb.os, hg'.tape.trans hb.tape, hg'.output.trans hb.output, Nat.le_trans hb.size hg'.size, fun k hk hr => (hg'.block k (Nat.lt_of_lt_of_le hk hb.size) fun e => ?_).trans (hb.block k hk hr)⟩
      have := hrow k e.symm
      omega
    · exact hbg.grown hg' (hown.ne hbg.own ht)
theorem RowS.mk {w : World} {B g cap : Nat} {gs : List SgR} {cur : Array Value} (hB : B ≤ g) (hb : Box w g 130 cur) (h1 : gs.length ≤ cap) (h2 : cap ≤ maxLen) (h3 : cur.size = cap * 4) (h : ∀ i, i < gs.length * 4 → cur[i]? = some (sgAt gs i)) : RowS w B (.slice (some ⟨g, 0, none⟩) gs.length cap) gs := by
  refine ⟨gVs_len gs, .inr ⟨g, cap, cur, rfl, hB, hb, h1, h2, h3, ?_⟩⟩
  refine List.ext_getElem? fun i => ?_
  by_cases hi : i < gs.length * 4
  · rw [List.getElem?_take_of_lt hi, gVs_get gs i hi]
    simpa using h i hi
  · rw [List.getElem?_eq_none (by rw [List.length_take]; omega), List.getElem?_eq_none (by rw [gVs_len]; omega)]
theorem set4_at (cur : Array Value) (a : Nat) (v0 v1 v2 v3 : Value) (h : a + 4 ≤ cur.size) :
    ((((cur.setIfInBounds a v0).setIfInBounds (a + 1) v1).setIfInBounds (a + 2) v2).setIfInBounds (a + 3) v3)[a]? = some v0 ∧ ((((cur.setIfInBounds a v0).setIfInBounds (a + 1) v1).setIfInBounds (a + 2) v2).setIfInBounds (a + 3) v3)[a + 1]? = some v1
    ∧ ((((cur.setIfInBounds a v0).setIfInBounds (a + 1) v1).setIfInBounds (a + 2) v2).setIfInBounds (a + 3) v3)[a + 2]? = some v2 ∧ ((((cur.setIfInBounds a v0).setIfInBounds (a + 1) v1).setIfInBounds (a + 2) v2).setIfInBounds (a + 3) v3)[a + 3]? = some v3 := by
  refine ⟨?_, ?_, ?_, ?_⟩
  · rw [Array.getElem?_setIfInBounds_ne (by omega), Array.getElem?_setIfInBounds_ne (by omega), Array.getElem?_setIfInBounds_ne (by omega), Array.getElem?_setIfInBounds, if_pos rfl, if_pos (by omega)]
  · rw [Array.getElem?_setIfInBounds_ne (by omega), Array.getElem?_setIfInBounds_ne (by omega), Array.getElem?_setIfInBounds, if_pos rfl, if_pos (by rw [Array.size_setIfInBounds]; omega)]
  · rw [Array.getElem?_setIfInBounds_ne (by omega), Array.getElem?_setIfInBounds, if_pos rfl, if_pos (by rw [Array.size_setIfInBounds, Array.size_setIfInBounds]; omega)]
  · rw [Array.getElem?_setIfInBounds, if_pos rfl, if_pos (by rw [Array.size_setIfInBounds, Array.size_setIfInBounds, Array.size_setIfInBounds]; omega)]
/-- The last one is turned. -/
def putG (w : World) (g k : Nat) (x : SgR) : World := (((w.setCell ⟨g, k * 4, none⟩ (.int .i64 x.f)).setCell ⟨g, k * 4 + 1, none⟩ (.int .i64 x.t)).setCell ⟨g, k * 4 + 2, none⟩ (.int .i64 x.m)).setCell ⟨g, k * 4 + 3, none⟩ (.slice x.A x.cs.length x.c)
theorem RowS.put {w : World} {B g cap : Nat} {gs : List SgR} {y : SgR} (h : RowS w B (.slice (some ⟨g, 0, none⟩) (gs.length + 1) cap) (gs ++ [y])) (x : SgR) :
    RowS (putG w g gs.length x) B (.slice (some ⟨g, 0, none⟩) (gs.length + 1) cap) (gs ++ [x]) ∧ GrewS B w (putG w g gs.length x) := by
  have hl1 : ∀ z : SgR, (gs ++ [z]).length = gs.length + 1 := fun z => by simp
  rcases h.2 with ⟨he, _⟩ | ⟨g', cap', cur, he, hb, hg, hnc, hmx, hsz, htk⟩
  · cases he
  · injection he with e1 e2 e3
    injection e1 with e1
    injection e1 with e1
    subst e1 e3
    rw [hl1] at hnc htk
    have hcell : ∀ i, i < (gs.length + 1) * 4 → cur[i]? = some (sgAt (gs ++ [y]) i) := fun i hi => by
      have h1 : (cur.toList.take ((gs.length + 1) * 4))[i]? = some (sgAt (gs ++ [y]) i) := by rw [htk]; exact gVs_get _ i (by rw [hl1]; exact hi)
      rw [List.getElem?_take_of_lt hi] at h1
      simpa using h1
    have hbox : Box w g 130 cur := hg
    have hb4 := (((hbox.set (gs.length * 4) (.int .i64 x.f)).set (gs.length * 4 + 1) (.int .i64 x.t)).set (gs.length * 4 + 2) (.int .i64 x.m)).set (gs.length * 4 + 3) (.slice x.A x.cs.length x.c)
    have hg4 : (gs ++ [x]).getD gs.length sgZ = x := getD_app gs x
    have hlen : gs.length * 4 + 4 ≤ cur.size := by rw [hsz]; have := Nat.mul_le_mul_right 4 hnc; omega
    obtain ⟨t0, t1, t2, t3⟩ := set4_at cur (gs.length * 4) (.int .i64 x.f) (.int .i64 x.t) (.int .i64 x.m) (.slice x.A x.cs.length x.c) hlen
    refine ⟨?_, ?_⟩
    · have := RowS.mk (gs := gs ++ [x]) (cap := cap) hb hb4 (by rw [hl1]; exact hnc) hmx (by simp [hsz]) fun i hi => ?_
      · rw [hl1] at this; exact this
      · rw [hl1] at hi
        by_cases h3 : i = gs.length * 4 + 3
        · subst h3; rw [sgAt3, hg4]; exact t3
        · by_cases h2 : i = gs.length * 4 + 2
          · subst h2; rw [sgAt2, hg4]; exact t2
          · by_cases h1 : i = gs.length * 4 + 1
            · subst h1; rw [sgAt1, hg4]; exact t1
            · by_cases h0 : i = gs.length * 4
              · subst h0; rw [sgAt0, hg4]; exact t0
              · rw [sgAt_app gs [x] i (by omega), ← sgAt_app gs [y] i (by omega), ← hcell i (by omega)]
                rw [Array.getElem?_setIfInBounds_ne (by omega), Array.getElem?_setIfInBounds_ne (by omega), Array.getElem?_setIfInBounds_ne (by omega), Array.getElem?_setIfInBounds_ne (by omega)]
    · have hblk : ∀ k, k ≠ g → (putG w g gs.length x).heap[k]? = w.heap[k]? := fun k hk => by
        unfold putG
        rw [Below.heap_setCell _ _ _ _ hk, Below.heap_setCell _ _ _ _ hk, Below.heap_setCell _ _ _ _ hk, Below.heap_setCell _ _ _ _ hk]
      have hsize : w.heap.size ≤ (putG w g gs.length x).heap.size := by unfold putG; simp [World.setCell]
      have hlow : Below B w (putG w g gs.length x) := ⟨rfl, rfl, rfl, hsize, fun k hk => hblk k (by omega)⟩
      refine ⟨fun a ha haB => ⟨ha.os, ha.tape, ha.output, Nat.le_trans ha.size hsize, fun k hk => (hblk k (by omega)).trans (ha.block k hk)⟩,
        fun lo hi a ha haB => ⟨ha.os, ha.tape, ha.output, Nat.le_trans ha.size hsize, fun k hk hr => (hblk k (by omega)).trans (ha.block k hk hr)⟩,
        fun g2 t m f ht ho => ho.of_block (hblk g2 fun e => ?_), fun g2 t xs ht hbx => (hblk g2 fun e => ?_).trans hbx, hsize, hlow⟩
      · subst e
        obtain ⟨cs, ho, _⟩ := ho
        rw [hg] at ho
        injection ho with ho
        injection ho with _ ho
        exact ht ho.symm
      · subst e
        unfold Box at hbx
        rw [hg] at hbx
        injection hbx with hbx
        injection hbx with _ hbx
        exact ht hbx.symm
/-- A content that is read: an older one, or one of the call's own. -/
def CI (w : World) (g B : Nat) (A : Option Addr) (x : List Int) : Prop := Ins w g A x ∨ SlI w B A x
section
variable {w w' : World} {g B : Nat} {A : Option Addr} {x : List Int}
theorem CI.nx (h : CI w g B A x) (hb : Nx w w') (hg : g ≤ w.heap.size) : CI w' g B A x := by
  rcases h with h | h
  · exact .inl (h.below hb hg)
  · exact .inr (Sl.nx h hb)
theorem CI.rg (h : CI w g B A x) (hb : Rg g (g + 1) w w') (hg : g ≤ w.heap.size) (hB : g + 1 ≤ B) : CI w' g B A x := by
  rcases h with h | h
  · exact .inl (h.below (hb.below hg) (Nat.le_refl _))
  · exact .inr (Sl.rgO h hb hB)
theorem CI.grew (h : CI w g B A x) (hb : GrewS B w w') (hB : g ≤ B) : CI w' g B A x := by
  rcases h with h | h
  · exact .inl (h.below hb.low hB)
  · exact .inr (hb.sl h (by decide))
end
end Go.Proofs.YtehahodomfbpjaaGreatDoor
/- Contracts of the program's functions that read the segments and the image of a disk. Conditions: the disk is right and can be read; the table is one; the package's errors are known. -/
namespace Go.Proofs.YtehahodomfbpjaaGreatDoor
set_option linter.unusedVariables false
set_option maxRecDepth 100000
open Go.RowKit

/-- What reading the segments leaves: an error, or all of them. -/
def RetSG (w : World) (ss : List ByteArray) (ws : List (Int × ByteArray)) (xs : List Int) (a0 : Addr) (e : Ending) (w' : World) : Prop :=
  Nx w w' ∧ (((∃ k, k < xs.length ∧ ldG ss ws (xs.getD k 0) = none) ∧ e = .returned (.tuple #[.slice none 0 0, .iface 304 (.pointer (some a0))]))
    ∨ ∃ A c gs, e = .returned (.tuple #[.slice A gs.length c, .nilIface]) ∧ GsTo ss ws xs xs.length gs ∧ gs.length ≤ c ∧ SgO w' w.heap.size A gs ∧ Dj gs)
theorem RowS.sgoc {w : World} {B : Nat} {v : Value} {gs : List SgR} (h : RowS w B v gs) (hc : ChO w B gs) : ∃ A c, v = .slice A gs.length c ∧ gs.length ≤ c ∧ SgO w B A gs := by
  have hsl := h.sl
  rcases h.2 with ⟨rfl, h0⟩ | ⟨g, cap, cur, rfl, hb, hg, hnc, _, hcs, htk⟩
  · exact ⟨none, 0, by rw [h0], by omega, ⟨fun hn => by omega, hc⟩⟩
  · obtain ⟨A, c, e, hs⟩ := hsl
    injection e with e1 e2 e3
    subst e1 e3
    exact ⟨_, _, rfl, hnc, hs, hc⟩
theorem RowS.nil (w : World) (B : Nat) : RowS w B (.slice none 0 0) [] := ⟨rfl, .inl ⟨rfl, rfl⟩⟩
theorem ChO.nil (w : World) (B : Nat) : ChO w B [] := fun k hk => absurd hk (by simp)
theorem tb_at {xs : List Int} (h : tbB xs = true) {k : Nat} (hk : k < xs.length) : ∃ a : Nat, xs.getD k 0 = (a : Int) ∧ 10 ≤ a ∧ a < 64 := by
  have h1 : xs.getD k 0 ∈ xs := by rw [List.getD_eq_getElem?_getD, List.getElem?_eq_getElem hk]; exact List.getElem_mem hk
  have := tbB_in h h1
  exact ⟨(xs.getD k 0).toNat, by omega, by omega, by omega⟩
set_option maxHeartbeats 4000000 in
theorem segsIn_c (A A2 A3 : Option Addr) (n c n2 c2 c3 B : Nat) (ss : List ByteArray) (ws : List (Int × ByteArray)) (xs : List Int) (w : World) (a0 a1 : Addr) (h : Strs w B A n ss) (h2 : Wrs w B A2 n2 ws) (h3 : Ins w B A3 xs) (hB : B ≤ w.heap.size) (hn : n ≤ 1048576) (hn2 : n2 ≤ 1048576)
    (hD : diskB ss ws = true) (ht : tbB xs = true) (hE : Er w a0 a1) :
    Calls Tryz.prog 132 #[.agg #[.slice A n c, .slice A2 n2 c2], .slice A3 xs.length c3] w (RetSG w ss ws xs a0) := by
  have b0 := Box.new w 38 #[.slice A n c, .slice A2 n2 c2]
  have hx0 := (Nx.refl w).alloc (.cells #[.slice A n c, .slice A2 n2 c2] 38)
  have hn64 : 64 ≤ n := by have := (diskB_len64 hD).1; have := h.1; omega
  have HDs := Lib.hid (fun a => readP_size hD a)
  have Hta := Lib.hid (fun k (hk : k < xs.length) => tb_at ht hk)
  have hm20 := (tbB_yes ht).1
  have HRet := Lib.hid (fun (e : Ending) (w' : World) (h : RetSG w ss ws xs a0 e w') => h)
  have HSn := Lib.hid (fun k gs q (h1 : GsTo ss ws xs k gs) (h2 : k < xs.length) (h3 : ldG ss ws (xs.getD k 0) = some q) (A c) => h1.snoc h2 h3 A c)
  obtain ⟨m, Hm⟩ : ∃ m, Hid (xs.length = m) := ⟨_, rfl⟩
  have h3' : ∀ k, k < m → _ := fun k hk w' B' hw hB' => ((h3.below (w' := w') (B' := B') hw hB').at_ (k := k) (by rw [Hm.out]; exact hk))
  rw [Hm.out] at Hta hm20 HSn ⊢
  clear hD ht h3
  go_enter Tryz.func132, Tryz.ntmps132
  go_wp2_with fail
  generalize w.alloc (.cells #[.slice A n c, .slice A2 n2 c2] 38) = W at *
  go_loopw [6, 13] (fun v i wr => ∃ (k : Nat) (gs : List SgR), k ≤ m ∧ i = .int .i64 k ∧ (∃ u, u = v ∧ RowS wr w.heap.size u gs) ∧ ChO wr w.heap.size gs ∧ Dj gs ∧ GsTo ss ws xs k gs ∧ Nx w wr ∧ Box wr w.heap.size 38 #[.slice A n c, .slice A2 n2 c2]) (fun _ i _ => m - (intOf i).toNat)
  case atStart => exact ⟨0, [], by omega, rfl, ⟨_, rfl, RowS.nil _ _⟩, ChO.nil _ _, Dj.nil, GsTo.nil _ _ _, hx0, b0⟩
  case round =>
    obtain ⟨k, gs, hk, rfl, ⟨u, rfl, hrow⟩, hcho, hdj, hgs, hnx, hb⟩ := hrel
    clear b0 hx0
    have HDj := Lib.hid hdj
    have HGs := Lib.hid hgs
    have Hlen := Lib.hid hgs.len
    clear hdj hgs
    by_cases hlt : k < m
    case neg =>
      obtain rfl : k = m := by omega
      obtain ⟨A', c', rfl, hc', hS⟩ := hrow.sgoc hcho
      have HF : Hid (RetSG w ss ws xs a0 (.returned (.tuple #[.slice A' gs.length c', .nilIface])) wr) := Lib.hid ⟨hnx, .inr ⟨A', c', gs, rfl, by rw [Hm.out]; exact HGs.out, hc', hS, HDj.out⟩⟩
      clear hrow hcho hS hc'
      go_wp2
      go_ret2
      exact HF.out
    obtain ⟨a, ha, ha1, ha2⟩ := Hta.out k hlt
    obtain ⟨bb, off, rfl, hbb, p0⟩ := h3' k hlt _ _ hnx hB
    rw [ha] at p0
    have HG : Hid (ldG ss ws (xs.getD k 0) = rdG (readP ss ws a)) := Lib.hid (by rw [ha]; rfl)
    clear ha
    have hc0 := hb.c0
    have hc1 := hb.c1
    go_wp2_with fail
    refine (newest_c A A2 n c n2 c2 B a ss ws _ (h.below hnx hB) (h2.below hnx hB) (Nat.le_trans hB hnx.size) (by omega) hn hn2).mono ?_
    rintro e w1 ⟨rfl, hk1⟩
    have hrow1 := hrow.nx hk1
    have hcho1 := hcho.nx hk1
    have hnx1 := hnx.trans hk1
    have hb1 := hb.nx hk1
    clear hrow hcho hnx hb hc0 hc1 p0
    go_wp2_with fail
    refine (segOfText_c (readP ss ws a) _ a0 a1 (by have := HDs.out a; omega) (hE.nx hnx1)).mono ?_
    rintro e w2 ⟨hk2, hno, hyes⟩
    have hrow2 := hrow1.nx hk2
    have hcho2 := hcho1.nx hk2
    have hnx2 := hnx1.trans hk2
    have hb2 := hb1.nx hk2
    have HC1 := Lib.hid hcho1
    clear hrow1 hcho1 hb1
    cases hr : rdG (readP ss ws a) with
    | none =>
      obtain rfl := hno hr
      have HF : Hid (ldG ss ws (xs.getD k 0) = none) := Lib.hid (by rw [HG.out, hr])
      clear hno hyes hr
      go_wp2
      go_ret2
      exact ⟨by first | exact hnx2 | exact hnx2.alloc _, .inl ⟨⟨k, by rw [Hm.out]; exact hlt, HF.out⟩, rfl⟩⟩
    | some q =>
      obtain ⟨Ag, cg, rfl, hSl⟩ := hyes q hr
      have HF : Hid (ldG ss ws (xs.getD k 0) = some q) := Lib.hid (by rw [HG.out, hr])
      clear hno hyes hr
      obtain ⟨q0, q1, q2, cs⟩ := q
      simp only at hSl
      have hd1 := HDj.out.snoc (g := ⟨q0, q1, q2, Ag, cg, cs⟩) HC1.out hSl
      have HD1 := Lib.hid hd1
      have HG1 := Lib.hid (HSn.out k gs _ HGs.out hlt HF.out Ag cg)
      have hSl' := hSl.low (lo' := w.heap.size) hnx1.size
      clear hd1 hSl
      have hz3 := ((Nx.refl w2).alloc (.cells #[.int .i64 q0, .int .i64 q1, .int .i64 q2, .slice Ag cs.length cg] 130)).alloc (.cells #[.int .i64 q0, .int .i64 q1, .int .i64 q2, .slice Ag cs.length cg] 130)
      have hrow3 := hrow2.nx hz3
      have hcho3 := hcho2.nx hz3
      have hnx3 := hnx2.trans hz3
      have hb3 := hb2.nx hz3
      have hSl3 := hSl'.nx hz3
      have bN := Box.new (w2.alloc (.cells #[.int .i64 q0, .int .i64 q1, .int .i64 q2, .slice Ag cs.length cg] 130)) 130 #[.int .i64 q0, .int .i64 q1, .int .i64 q2, .slice Ag cs.length cg]
      have HR3 := Lib.hid hrow3
      have HB3 := Lib.hid bN
      have hl9 : gs.length ≤ 1048576 := by have := Hlen.out; omega
      have hsz3 : w.heap.size ≤ ((w2.alloc (.cells #[.int .i64 q0, .int .i64 q1, .int .i64 q2, .slice Ag cs.length cg] 130)).alloc (.cells #[.int .i64 q0, .int .i64 q1, .int .i64 q2, .slice Ag cs.length cg] 130)).heap.size := hnx3.size
      clear hrow2 hcho2 hb2 hSl' hrow3 bN
      simp only [World.size_alloc] at HB3
      go_wp2_with (at_builtin; refine wpList_addS rfl _ _ rfl w.heap.size (w2.heap.size + 1) _ gs ⟨q0, q1, q2, Ag, cg, cs⟩ rfl rfl HR3.out HB3.out hl9 hsz3 ?_)
      intro A9 k9 w9 hrow9 hgr
      have hnx9 := hgr.nx w hnx3 (Nat.le_refl _)
      have hcho9 := (hgr.cho hcho3).snoc (g := ⟨q0, q1, q2, Ag, cg, cs⟩) (hgr.sl hSl3 (by decide))
      have hb9 := hgr.box _ _ _ (by decide) hb3
      clear hcho3 hSl3 hb3 hgr HR3 HB3
      go_wp2
      go_roundw
      case rel => exact ⟨k + 1, gs ++ [⟨q0, q1, q2, Ag, cg, cs⟩], by omega, by go_num, ⟨_, rfl, hrow9⟩, hcho9, HD1.out, HG1.out, hnx9, hb9⟩
      case measure => simp [intOf]; omega
/-- What reading the image leaves: an error, or the image. -/
def RetIG (w : World) (ss : List ByteArray) (ws : List (Int × ByteArray)) (a0 : Addr) (e : Ending) (w' : World) : Prop :=
  Nx w w' ∧ (((∃ j, j < 8 ∧ ldI ss ws j = none) ∧ e = .returned (.tuple #[.slice none 0 0, .iface 304 (.pointer (some a0))]))
    ∨ ∃ A c im, e = .returned (.tuple #[.slice A im.length c, .nilIface]) ∧ ImTo ss ws 8 im ∧ SlI w' w.heap.size A im)
theorem oneN_no {ns : List Nat} (h : ns.length ≠ 1) : oneN (some ns) = none := by
  unfold oneN
  split
  · rename_i e; injection e with e; subst e; simp at h
  · rfl
set_option maxHeartbeats 4000000 in
theorem image_c (A A2 : Option Addr) (n c n2 c2 B : Nat) (ss : List ByteArray) (ws : List (Int × ByteArray)) (w : World) (a0 a1 : Addr) (h : Strs w B A n ss) (h2 : Wrs w B A2 n2 ws) (hB : B ≤ w.heap.size) (hn : n ≤ 1048576) (hn2 : n2 ≤ 1048576)
    (hD : diskB ss ws = true) (hE : Er w a0 a1) :
    Calls Tryz.prog 133 #[.agg #[.slice A n c, .slice A2 n2 c2]] w (RetIG w ss ws a0) := by
  have b0 := Box.new w 38 #[.slice A n c, .slice A2 n2 c2]
  have hx0 := (Nx.refl w).alloc (.cells #[.slice A n c, .slice A2 n2 c2] 38)
  have hn64 : 64 ≤ n := by have := (diskB_len64 hD).1; have := h.1; omega
  have HDs := Lib.hid (fun a => readP_size hD a)
  clear hD
  go_enter Tryz.func133, Tryz.ntmps133
  go_wp2_with fail
  generalize w.alloc (.cells #[.slice A n c, .slice A2 n2 c2] 38) = W at *
  go_loopw [4, 8] (fun v i wr => ∃ (k : Nat) (im : List Int), k ≤ 8 ∧ i = .int .i64 k ∧ (∃ u, u = v ∧ RowI wr w.heap.size u im) ∧ ImTo ss ws k im ∧ Nx w wr ∧ Box wr w.heap.size 38 #[.slice A n c, .slice A2 n2 c2]) (fun _ i _ => 8 - (intOf i).toNat)
  case atStart => exact ⟨0, [], by omega, rfl, ⟨_, rfl, RowI.nil _ _⟩, ImTo.nil _ _, hx0, b0⟩
  case round =>
    obtain ⟨k, im, hk, rfl, ⟨u, rfl, hrow⟩, him, hnx, hb⟩ := hrel
    clear b0 hx0
    have HIm := Lib.hid him
    have Hlen := Lib.hid him.len
    clear him
    by_cases hlt : k < 8
    case neg =>
      obtain rfl : k = 8 := by omega
      obtain ⟨A', c', rfl, hc', hS⟩ := hrow.slc
      have HF : Hid (RetIG w ss ws a0 (.returned (.tuple #[.slice A' im.length c', .nilIface])) wr) := Lib.hid ⟨hnx, .inr ⟨A', c', im, rfl, HIm.out, hS⟩⟩
      clear hrow hS hc'
      go_wp2
      go_ret2
      exact HF.out
    have HG : Hid (ldI ss ws k = oneN (rdN (readP ss ws (2 + k)))) := Lib.hid rfl
    have hc0 := hb.c0
    have hc1 := hb.c1
    go_wp2_with fail
    rw [show ((2 : Int) + (k : Int)) = ((2 + k : Nat) : Int) by omega]
    refine (newest_c A A2 n c n2 c2 B (2 + k) ss ws _ (h.below hnx hB) (h2.below hnx hB) (Nat.le_trans hB hnx.size) (by omega) hn hn2).mono ?_
    rintro e w1 ⟨rfl, hk1⟩
    have hrow1 := hrow.nx hk1
    have hnx1 := hnx.trans hk1
    have hb1 := hb.nx hk1
    clear hrow hnx hb hc0 hc1
    go_wp2_with fail
    refine (sealedNumbers_c (readP ss ws (2 + k)) _ a0 a1 (by have := HDs.out (2 + k); omega) (hE.nx hnx1)).mono ?_
    rintro e w2 ⟨hk2, hno, hyes⟩
    have hrow2 := hrow1.nx hk2
    have hnx2 := hnx1.trans hk2
    have hb2 := hb1.nx hk2
    clear hrow1 hb1
    cases hr : rdN (readP ss ws (2 + k)) with
    | none =>
      obtain rfl := hno hr
      have HF : Hid (ldI ss ws k = none) := Lib.hid (by rw [HG.out, hr]; rfl)
      clear hno hyes hr
      go_wp2
      go_ret2
      exact ⟨hnx2, .inl ⟨⟨k, hlt, HF.out⟩, rfl⟩⟩
    | some ns =>
      obtain ⟨Ag, cg, rfl, hR, hcg⟩ := hyes ns hr
      by_cases h1 : ns.length = 1
      case neg =>
        have HF : Hid (ldI ss ws k = none) := Lib.hid (by rw [HG.out, hr]; exact oneN_no h1)
        have hne : ((ns.length : Int) != 1) = true := by rw [bne_iff_ne]; omega
        obtain ⟨e0, _⟩ := hE.nx hnx2
        clear hno hyes hr hR
        go_wp2
        go_quiet (fail)
        go_wp2
        go_ret2
        exact ⟨hnx2.drewN _, .inl ⟨⟨k, hlt, HF.out⟩, rfl⟩⟩
      obtain ⟨x, rfl⟩ : ∃ x, ns = [x] := by
        match ns, h1 with
        | [x], _ => exact ⟨x, rfl⟩
      have HF : Hid (ldI ss ws k = some (x : Int)) := Lib.hid (by rw [HG.out, hr]; rfl)
      obtain ⟨bb, off, rfl, hbb, hcell⟩ := hR (by simp)
      have p0 : w2.cell? ⟨bb, off, none⟩ = some (.int .i64 (x : Int)) := hcell 0 (by simp)
      have HI1 := Lib.hid (HIm.out.snoc HF.out)
      clear hno hyes hr hR hcell h1
      have hz3 := (Nx.refl w2).alloc (.cells #[.int .i64 (x : Int)] 3)
      have HR3 := Lib.hid (hrow2.nx hz3)
      have HB3 := Lib.hid (Box.new w2 3 #[.int .i64 (x : Int)])
      have hnx3 := hnx2.trans hz3
      have hb3 := hb2.nx hz3
      have hl9 : im.length ≤ 1048576 := by have := Hlen.out; omega
      have hsz3 := hnx3.size
      clear hrow2 hb2
      simp only [List.length_cons, List.length_nil] at hcg ⊢
      go_wp2_with (at_builtin; refine wpList_addI rfl _ _ rfl w.heap.size w2.heap.size _ im (x : Int) rfl rfl HR3.out HB3.out hl9 hsz3 ?_)
      intro A9 k9 w9 hrow9 hgr
      have hnx9 := hgr.nx w hnx3 (Nat.le_refl _)
      have hb9 := hgr.box _ _ _ (by decide) hb3
      clear hb3 hgr HR3 HB3
      go_wp2
      go_roundw
      case rel => exact ⟨k + 1, im ++ [(x : Int)], by omega, by go_num, ⟨_, rfl, hrow9⟩, HI1.out, hnx9, hb9⟩
      case measure => simp [intOf]; omega
end Go.Proofs.YtehahodomfbpjaaGreatDoor
