/-
  Texts of the proof, put together in their order: Sgf, Vld, Vix, Vls.
  Conditions: those of each.
-/
import Derived.Test.YtehahodomfbpjaaGreatDoorMm12
/- Contract of the program's segOfText. Conditions: texts of at most 65536 bytes; the package's errors are known. -/
namespace Go.Proofs.YtehahodomfbpjaaGreatDoor
set_option linter.unusedVariables false
set_option maxRecDepth 100000
open Go.RowKit

theorem news3 (w : World) (t : TypeId) (x y z : Value) : ∀ j u, [x, y, z][j]? = some u → (w.alloc (.cells #[x, y, z] t)).cell? ((Addr.mk w.heap.size 0 none).add j) = some u := fun j u hj => by
  have ho := Own.new3 w t x y z
  rcases j with _ | _ | _ | j
  · injection hj with hj; subst hj; exact (ho.cell (i := 0) (by omega))
  · injection hj with hj; subst hj; exact (ho.cell (i := 1) (by omega))
  · injection hj with hj; subst hj; exact (ho.cell (i := 2) (by omega))
  · simp at hj
theorem rdN_len {t : ByteArray} {ns : List Nat} (ht : t.size ≤ 65536) (h : rdN t = some ns) : ns.length ≤ 65536 := by
  unfold rdN at h
  cases ho : opensB t with
  | false => rw [ho] at h; cases h
  | true =>
    rw [ho] at h
    unfold numsO at h
    by_cases hc : (bodyOf t).data.toList.length % 6 = 0 ∧ digL (bodyOf t).data.toList = true
    · simp only [if_true, if_pos hc] at h
      injection h with h
      subst h
      rw [numsOf_len, ← ba_size]
      have := bodyOf_size t
      omega
    · simp only [if_true, if_neg hc] at h; cases h
theorem Row.at0 {w : World} {B m : Nat} {A : Option Addr} {f : Nat → Value} (h : Row w B A m f) (hm : 0 < m) : ∃ b off, A = some ⟨b, off, none⟩ ∧ b < B ∧ ∀ i, i < m → w.cell? ⟨b, off + i, none⟩ = some (f i) := h hm
/-- The loop's relation: k changes are there, the next number is p. -/
def SegLoop (w1 : World) (gG : Nat) (n0 n1 n2 : Nat) (ns : List Nat) (i : Value) (wr : World) : Prop :=
  ∃ (k p : Nat) (v : Value), p ≤ ns.length ∧ Hid (p = 3 + 3 * k) ∧ i = .int .i64 p ∧ Box wr gG 130 #[.int .i64 n0, .int .i64 n1, .int .i64 n2, v] ∧ wr.ownsRow w1.heap.size 202 3 v k (chsV (chOf ns k)) ∧ Nx w1 wr
theorem Sl.put4 {u : World} {lo g : Nat} {A : Option Addr} {t : TypeId} {m : Nat} {f : Nat → Value} (h : Sl u lo A t m f) (hg : g < lo) (v0 v1 v2 v3 : Value) : Sl (put4 u g v0 v1 v2 v3) lo A t m f :=
  (((h.far (p := ⟨g, 0, none⟩) hg v0).far (p := ⟨g, 1, none⟩) hg v1).far (p := ⟨g, 2, none⟩) hg v2).far (p := ⟨g, 3, none⟩) hg v3
/-- What reading a segment leaves: no segment, and bad; or one in new memory, and good. -/
def RetST (w : World) (o : Option G4) (bad good : Value) (e : Ending) (w' : World) : Prop :=
  Nx w w' ∧ (o = none → e = .returned (.tuple #[.agg #[.int .i64 0, .int .i64 0, .int .i64 0, .slice none 0 0], bad])) ∧
  ∀ q, o = some q → ∃ A c, e = .returned (.tuple #[.agg #[.int .i64 q.1, .int .i64 q.2.1, .int .i64 q.2.2.1, .slice A q.2.2.2.length c], good]) ∧ Sl w' w.heap.size A 202 (q.2.2.2.length * 3) (chAt q.2.2.2)
theorem RetST.no {w w' : World} {o : Option G4} {bad good : Value} (h : o = none) (hn : Nx w w') : RetST w o bad good (.returned (.tuple #[.agg #[.int .i64 0, .int .i64 0, .int .i64 0, .slice none 0 0], bad])) w' :=
  ⟨hn, fun _ => rfl, fun q h2 => by rw [h] at h2; cases h2⟩
theorem RetST.yes {w w' : World} {o : Option G4} {bad good : Value} {ns : List Nat} {n0 n1 n2 k c : Nat} {A : Option Addr} (h : o = some (sgOf ns)) (hq : sgOf ns = (n0, n1, n2, chOf ns k)) (hs : Sl w' w.heap.size A 202 ((chOf ns k).length * 3) (chAt (chOf ns k))) (hn : Nx w w') :
    RetST w o bad good (.returned (.tuple #[.agg #[.int .i64 n0, .int .i64 n1, .int .i64 n2, .slice A (chOf ns k).length c], good])) w' :=
  ⟨hn, (fun h2 => by rw [h] at h2; cases h2), fun q h2 => by rw [h, hq] at h2; injection h2 with h2; subst h2; exact ⟨A, c, rfl, hs⟩⟩
theorem okLen_yes {ns : List Nat} (h1 : 3 ≤ ns.length) (h2 : ns.length % 3 = 0) : okLen ns = true := by unfold okLen; simp [h1, h2]
theorem okLen_no {ns : List Nat} (h : ¬ (3 ≤ ns.length ∧ ns.length % 3 = 0)) : okLen ns = false := by
  unfold okLen
  cases h1 : decide (3 ≤ ns.length) with
  | false => rfl
  | true =>
    have h1' : 3 ≤ ns.length := by simpa using h1
    rw [decide_eq_false (fun h2 => h ⟨h1', h2⟩)]; rfl
set_option maxRecDepth 100000 in
set_option maxHeartbeats 8000000 in
/-- From the loop on, up to its end. -/
theorem segOfText_c (t : ByteArray) (w : World) (a0 a1 : Addr) (ht : t.size ≤ 65536) (hE : Er w a0 a1) : Calls Tryz.prog 216 #[.string t] w (RetST w (rdG t) (.iface 304 (.pointer (some a0))) .nilIface) := by
  obtain ⟨i0, hi0, hz0, hz1, hz2⟩ := info_parts info_chg
  have e0 := hE.1
  have hg0 : 0 < w.heap.size := World.block_lt_of_cell? w _ e0
  have b0 := Box.new w 130 #[.int .i64 0, .int .i64 0, .int .i64 0, .slice none 0 0]
  have hx0 := (Nx.refl w).alloc (.cells #[.int .i64 0, .int .i64 0, .int .i64 0, .slice none 0 0] 130)
  go_enter Tryz.func216, Tryz.ntmps216
  go_wp2_with fail
  generalize w.alloc (.cells #[.int .i64 0, .int .i64 0, .int .i64 0, .slice none 0 0] 130) = W at *
  refine (sealedNumbers_c t _ a0 a1 ht (hE.nx hx0)).mono ?_
  rintro e w1 ⟨hnx1, h1, h2⟩
  have b1 := b0.nx hnx1
  have hxw := hx0.trans hnx1
  clear b0 hx0 hnx1
  cases hr : rdN t with
  | none =>
    obtain rfl := h1 hr
    have HF := Lib.hid (rdG_none hr)
    clear h1 h2 hr
    obtain ⟨c0, c1, c2, c3⟩ := b1.d4
    have f0 := b1.frozen 0
    have f1 := b1.frozen 1
    have f2 := b1.frozen 2
    have f3 := b1.frozen 3
    go_wp2
    have q := (put4_box b1 (.int .i64 0) (.int .i64 0) (.int .i64 0) (.slice none 0 0))
    have hnf := (put4_nx hxw (Nat.le_refl w.heap.size) (.int .i64 0) (.int .i64 0) (.int .i64 0) (.slice none 0 0))
    change bodyPost _ _ _ _ _ (put4 w1 w.heap.size (.int .i64 0) (.int .i64 0) (.int .i64 0) (.slice none 0 0))
    change Box (put4 w1 w.heap.size (.int .i64 0) (.int .i64 0) (.int .i64 0) (.slice none 0 0)) _ _ _ at q
    generalize put4 w1 w.heap.size (.int .i64 0) (.int .i64 0) (.int .i64 0) (.slice none 0 0) = Wf at *
    obtain ⟨g0, g1, g2, g3⟩ := q.d4
    exact bodyPost_ret (v := .tuple #[.agg #[.int .i64 0, .int .i64 0, .int .i64 0, .slice none 0 0], .iface 304 (.pointer (some a0))]) (by simp [results, Tryz.results216, go_sem, g0, g1, g2, g3]) rfl (RetST.no HF.out hnf)
  | some ns =>
    obtain ⟨A, c, rfl, hrow, _⟩ := h2 ns hr
    have HN := Lib.hid hr
    clear h1 h2 hr
    have HNL := Lib.hid (rdN_len ht HN.out)
    by_cases hl : 3 ≤ ns.length ∧ ns.length % 3 = 0
    case neg =>
      have HF := Lib.hid (rdG_len HN.out (okLen_no hl))
      by_cases hz : ns.length = 0
      · have he0 : ((ns.length : Int) == 0) = true := beq_iff_eq.2 (by omega)
        clear hz hl
        obtain ⟨c0, c1, c2, c3⟩ := b1.d4
        have f0 := b1.frozen 0
        have f1 := b1.frozen 1
        have f2 := b1.frozen 2
        have f3 := b1.frozen 3
        have hlt := b1.lt
        go_wp2_with fail
        refine wp_region_lex [false, false, true, false] (fun w' => w'.cell? ⟨0, 0, none⟩ = some (.iface 304 (.pointer (some a0)))) (by kernel_rfl) (by kernel_rfl) rfl (by kernel_rfl) (fun _ _ d _ _ h => by cases d <;> exact h) (by exact ((hxw.drew).cell (p := ⟨0, 0, none⟩) hg0).trans e0) ?_
        repeat (first | (refine HL.take (v := ?_) (by rfl) ?_ ?_; rotate_left; (· (intro w hSw; (try dsimp only at hSw); go_simp; try with_reducible rfl)); (try simp only [Act.put, List.setIfInBounds_toArray, List.set_cons_zero, List.set_cons_succ])) | (refine HL.skip (by rfl) ?_; (try simp only [Act.put, List.setIfInBounds_toArray, List.set_cons_zero, List.set_cons_succ])))
        refine HL.call (by rfl) (fun K hK => ?_)
        go_simp
        refine hK.out _ _ (by exact (put4_nx hxw.drew (Nat.le_refl w.heap.size) (.int .i64 0) (.int .i64 0) (.int .i64 0) (.slice none 0 0)).cell (p := ⟨0, 0, none⟩) hg0 |>.trans e0) ?_
        clear hK K
        try simp only [Act.put, List.setIfInBounds_toArray, List.set_cons_zero, List.set_cons_succ]
        repeat (first | (refine HL.take (v := ?_) (by rfl) ?_ ?_; rotate_left; (· (intro w hSw; (try dsimp only at hSw); go_simp; try with_reducible rfl)); (try simp only [Act.put, List.setIfInBounds_toArray, List.set_cons_zero, List.set_cons_succ])) | (refine HL.skip (by rfl) ?_; (try simp only [Act.put, List.setIfInBounds_toArray, List.set_cons_zero, List.set_cons_succ])))
        refine HL.done ?_
        clear c0 c1 c2 c3 f0 f1 f2 f3
        go_wp2
        have q := (put4_box b1 (.int .i64 0) (.int .i64 0) (.int .i64 0) (.slice none 0 0))
        have hnf := (put4_nx hxw (Nat.le_refl w.heap.size) (.int .i64 0) (.int .i64 0) (.int .i64 0) (.slice none 0 0)).drew
        change bodyPost _ _ _ _ _ (World.drew (put4 w1 w.heap.size (.int .i64 0) (.int .i64 0) (.int .i64 0) (.slice none 0 0)))
        change Box (World.drew (put4 w1 w.heap.size (.int .i64 0) (.int .i64 0) (.int .i64 0) (.slice none 0 0))) _ _ _ at q
        generalize World.drew (put4 w1 w.heap.size (.int .i64 0) (.int .i64 0) (.int .i64 0) (.slice none 0 0)) = Wf at *
        obtain ⟨g0, g1, g2, g3⟩ := q.d4
        exact bodyPost_ret (v := .tuple #[.agg #[.int .i64 0, .int .i64 0, .int .i64 0, .slice none 0 0], .iface 304 (.pointer (some a0))]) (by simp [results, Tryz.results216, go_sem, g0, g1, g2, g3]) rfl (RetST.no HF.out hnf)
      have he0 : ((ns.length : Int) == 0) = false := beq_eq_false_iff_ne.2 (by omega)
      have he1 : ((ns.length : Int) % 3 != 0) = true := by rw [bne_iff_ne]; omega
      clear hz hl
      obtain ⟨c0, c1, c2, c3⟩ := b1.d4
      have f0 := b1.frozen 0
      have f1 := b1.frozen 1
      have f2 := b1.frozen 2
      have f3 := b1.frozen 3
      have hlt := b1.lt
      go_wp2_with fail
      refine wp_region_lex [false, false, true, false] (fun w' => w'.cell? ⟨0, 0, none⟩ = some (.iface 304 (.pointer (some a0)))) (by kernel_rfl) (by kernel_rfl) rfl (by kernel_rfl) (fun _ _ d _ _ h => by cases d <;> exact h) (by exact ((hxw.drew).cell (p := ⟨0, 0, none⟩) hg0).trans e0) ?_
      repeat (first | (refine HL.take (v := ?_) (by rfl) ?_ ?_; rotate_left; (· (intro w hSw; (try dsimp only at hSw); go_simp; try with_reducible rfl)); (try simp only [Act.put, List.setIfInBounds_toArray, List.set_cons_zero, List.set_cons_succ])) | (refine HL.skip (by rfl) ?_; (try simp only [Act.put, List.setIfInBounds_toArray, List.set_cons_zero, List.set_cons_succ])))
      refine HL.call (by rfl) (fun K hK => ?_)
      go_simp
      refine hK.out _ _ (by exact (put4_nx hxw.drew (Nat.le_refl w.heap.size) (.int .i64 0) (.int .i64 0) (.int .i64 0) (.slice none 0 0)).cell (p := ⟨0, 0, none⟩) hg0 |>.trans e0) ?_
      clear hK K
      try simp only [Act.put, List.setIfInBounds_toArray, List.set_cons_zero, List.set_cons_succ]
      repeat (first | (refine HL.take (v := ?_) (by rfl) ?_ ?_; rotate_left; (· (intro w hSw; (try dsimp only at hSw); go_simp; try with_reducible rfl)); (try simp only [Act.put, List.setIfInBounds_toArray, List.set_cons_zero, List.set_cons_succ])) | (refine HL.skip (by rfl) ?_; (try simp only [Act.put, List.setIfInBounds_toArray, List.set_cons_zero, List.set_cons_succ])))
      refine HL.done ?_
      clear c0 c1 c2 c3 f0 f1 f2 f3
      go_wp2
      have q := (put4_box b1 (.int .i64 0) (.int .i64 0) (.int .i64 0) (.slice none 0 0))
      have hnf := (put4_nx hxw (Nat.le_refl w.heap.size) (.int .i64 0) (.int .i64 0) (.int .i64 0) (.slice none 0 0)).drew
      change bodyPost _ _ _ _ _ (World.drew (put4 w1 w.heap.size (.int .i64 0) (.int .i64 0) (.int .i64 0) (.slice none 0 0)))
      change Box (World.drew (put4 w1 w.heap.size (.int .i64 0) (.int .i64 0) (.int .i64 0) (.slice none 0 0))) _ _ _ at q
      generalize World.drew (put4 w1 w.heap.size (.int .i64 0) (.int .i64 0) (.int .i64 0) (.slice none 0 0)) = Wf at *
      obtain ⟨g0, g1, g2, g3⟩ := q.d4
      exact bodyPost_ret (v := .tuple #[.agg #[.int .i64 0, .int .i64 0, .int .i64 0, .slice none 0 0], .iface 304 (.pointer (some a0))]) (by simp [results, Tryz.results216, go_sem, g0, g1, g2, g3]) rfl (RetST.no HF.out hnf)
    case pos =>
      obtain ⟨hl3, hlm⟩ := hl
      have he0 : ((ns.length : Int) == 0) = false := beq_eq_false_iff_ne.2 (by omega)
      have he1 : ((ns.length : Int) % 3 != 0) = false := by rw [bne_eq_false_iff_eq]; omega
      obtain ⟨N, hN⟩ : ∃ N, ns.length = 3 + 3 * N := ⟨ns.length / 3 - 1, by omega⟩
      have HNN := Lib.hid hN
      have HOL := Lib.hid (okLen_yes hl3 hlm)
      clear hN hlm
      obtain ⟨b, off, rfl, hb, hcl⟩ := hrow.at0 (by omega)
      obtain ⟨n0, Hn0⟩ : ∃ n, Hid (ns.getD 0 0 = n) := ⟨_, rfl⟩
      obtain ⟨n1, Hn1⟩ : ∃ n, Hid (ns.getD 1 0 = n) := ⟨_, rfl⟩
      obtain ⟨n2, Hn2⟩ : ∃ n, Hid (ns.getD 2 0 = n) := ⟨_, rfl⟩
      have k0 : w1.cell? ⟨b, off, none⟩ = some (.int .i64 n0) := by have := hcl 0 (by omega); unfold intAt at this; rw [Hn0.out] at this; exact this
      have k1 : w1.cell? ⟨b, off + 1, none⟩ = some (.int .i64 n1) := by have := hcl 1 (by omega); unfold intAt at this; rw [Hn1.out] at this; exact this
      have k2 : w1.cell? ⟨b, off + 2, none⟩ = some (.int .i64 n2) := by have := hcl 2 (by omega); unfold intAt at this; rw [Hn2.out] at this; exact this
      have HCL := Lib.hid hcl
      have hl0 : (0 : Int) < (ns.length : Int) := by omega
      have hl1 : (1 : Int) < (ns.length : Int) := by omega
      have hl2 : (2 : Int) < (ns.length : Int) := by omega
      have hm0 : 0 < ns.length := by omega
      have hm1 : 1 < ns.length := by omega
      have hm2 : 2 < ns.length := by omega
      clear hcl hrow
      go_wp2_with fail
      refine wp_region_lex [false, false, false, false, false, false, false, false, false, false, true, true] (fun w' => w'.cell? ⟨b, off, none⟩ = some (.int .i64 n0) ∧ w'.cell? ⟨b, off + 1, none⟩ = some (.int .i64 n1) ∧ w'.cell? ⟨b, off + 2, none⟩ = some (.int .i64 n2)) (by kernel_rfl) (by kernel_rfl) rfl (by kernel_rfl) (fun _ _ d _ _ h => by cases d <;> exact h) (by exact ⟨k0, k1, k2⟩) ?_
      repeat (first | (refine HL.take (v := ?_) (by rfl) ?_ ?_; rotate_left; (· (intro w hSw; (try dsimp only at hSw); go_simp; try with_reducible rfl)); (try simp only [Act.put, List.setIfInBounds_toArray, List.set_cons_zero, List.set_cons_succ])) | (refine HL.skip (by rfl) ?_; (try simp only [Act.put, List.setIfInBounds_toArray, List.set_cons_zero, List.set_cons_succ])))
      refine HL.call (by rfl) (fun K hK => ?_)
      go_simp
      refine hK.out _ _ (by exact ⟨(((Nx.refl w1).alloc _).cell (p := ⟨b, off, none⟩) hb).trans k0, (((Nx.refl w1).alloc _).cell (p := ⟨b, off + 1, none⟩) hb).trans k1, (((Nx.refl w1).alloc _).cell (p := ⟨b, off + 2, none⟩) hb).trans k2⟩) ?_
      clear hK K
      try simp only [Act.put, List.setIfInBounds_toArray, List.set_cons_zero, List.set_cons_succ]
      refine HL.call (by rfl) (fun K hK => ?_)
      go_simp
      refine hK.out _ _ (by exact ⟨(((Nx.refl w1).alloc _).cell (p := ⟨b, off, none⟩) hb).trans k0, (((Nx.refl w1).alloc _).cell (p := ⟨b, off + 1, none⟩) hb).trans k1, (((Nx.refl w1).alloc _).cell (p := ⟨b, off + 2, none⟩) hb).trans k2⟩) ?_
      clear hK K
      try simp only [Act.put, List.setIfInBounds_toArray, List.set_cons_zero, List.set_cons_succ]
      refine HL.done ?_
      clear k0 k1 k2 hl0 hl1 hl2 hm0 hm1 hm2
      have bg0 := Box.new w1 130 #[.int .i64 n0, .int .i64 n1, .int .i64 n2, .slice none 0 0]
      have hx3 := ((Nx.refl w1).alloc (.cells #[.int .i64 n0, .int .i64 n1, .int .i64 n2, .slice none 0 0] 130)).drew
      change Exit.then _ _ _ _ (World.drew (w1.alloc (.cells #[.int .i64 n0, .int .i64 n1, .int .i64 n2, .slice none 0 0] 130)))
      change Box (World.drew (w1.alloc (.cells #[.int .i64 n0, .int .i64 n1, .int .i64 n2, .slice none 0 0] 130))) _ _ _ at bg0
      generalize World.drew (w1.alloc (.cells #[.int .i64 n0, .int .i64 n1, .int .i64 n2, .slice none 0 0] 130)) = w3 at *
      go_wp2
      go_loopw [7] (fun i wr => SegLoop w1 w1.heap.size n0 n1 n2 ns i wr) (fun i _ => ns.length - (intOf i).toNat)
      case atStart => exact ⟨0, 3, .slice none 0 0, hl3, Lib.hid rfl, rfl, bg0, ⟨rfl, .inl ⟨rfl, rfl⟩⟩, hx3⟩
      case round =>
        obtain ⟨k, p, v, hp, HPp, rfl, bg, hw, hnx⟩ := hrel
        clear bg0 hx3
        by_cases hlt : p < ns.length
        · have hp3 : p + 3 ≤ ns.length := by have := HPp.out; have := HNN.out; omega
          have hn9 : ns.length ≤ 65536 := HNL.out
          obtain ⟨q0, Hq0⟩ : ∃ n, Hid (ns.getD p 0 = n) := ⟨_, rfl⟩
          obtain ⟨q1, Hq1⟩ : ∃ n, Hid (ns.getD (p + 1) 0 = n) := ⟨_, rfl⟩
          obtain ⟨q2, Hq2⟩ : ∃ n, Hid (ns.getD (p + 2) 0 = n) := ⟨_, rfl⟩
          have m0 : w1.cell? ⟨b, off + p, none⟩ = some (.int .i64 q0) := by have := HCL.out p (by omega); unfold intAt at this; rw [Hq0.out] at this; exact this
          have m1 : w1.cell? ⟨b, off + (p + 1), none⟩ = some (.int .i64 q1) := by have := HCL.out (p + 1) (by omega); unfold intAt at this; rw [Hq1.out] at this; exact this
          have m2 : w1.cell? ⟨b, off + (p + 2), none⟩ = some (.int .i64 q2) := by have := HCL.out (p + 2) (by omega); unfold intAt at this; rw [Hq2.out] at this; exact this
          have HQ := Lib.hid (show chV (chN3 ns k) = [.int .i64 q0, .int .i64 q1, .int .i64 q2] by
            unfold chV chN3; rw [← HPp.out, Hq0.out, Hq1.out, Hq2.out])
          have HO : Hid (∀ u ∈ [Value.int .i64 (q0 : Int), .int .i64 q1, .int .i64 q2], u.oneCell' = true) := Lib.hid (fun u hu => by simp only [List.mem_cons, List.not_mem_nil, or_false] at hu; rcases hu with rfl | rfl | rfl <;> rfl)
          have hbw := hb
          have hgG : w1.heap.size ≤ w1.heap.size := Nat.le_refl _
          have hk9 : k ≤ 100000 := by have := HPp.out; have := HNL.out; omega
          obtain ⟨_, _, _, c3⟩ := bg.d4
          have hw1a : (p : Int) + 1 < (ns.length : Int) := by omega
          have hw1b : (p : Int) + 2 < (ns.length : Int) := by omega
          have hw1c : (p : Int) < (ns.length : Int) := by omega
          have hw2a : ((p : Int) + 1).toNat = p + 1 := by omega
          have hw2b : ((p : Int) + 2).toNat = p + 2 := by omega
          have hw3a : (0 : Int) ≤ (p : Int) + 1 := by omega
          have hw3b : (0 : Int) ≤ (p : Int) + 2 := by omega
          have hw4a : IntKind.i64.wrap ((p : Int) + 1) = (p : Int) + 1 := IntWalk.i64_in _ (by have := HNL.out; omega)
          have hw4b : IntKind.i64.wrap ((p : Int) + 2) = (p : Int) + 2 := IntWalk.i64_in _ (by have := HNL.out; omega)
          go_wp2_with fail
          refine wp_region_plan (.t 0 (.t 2 (.t 3 (.t 4 (.t 5 (.t 6 (.t 7 (.t 8 (.t 9 (.t 10 (.t 11 (.t 12 (.t 13 (.t 14 (.t 15 (.t 16 (.b 1 (.c 17 (.c 18 (.t 19 (.c 20 .e)))) 17 (.c 1 (.c 18 (.t 19 (.c 20 .e))))))))))))))))))))) (fun w' => w'.cell? ⟨b, off + p, none⟩ = some (.int .i64 q0) ∧ w'.cell? ⟨b, off + (p + 1), none⟩ = some (.int .i64 q1) ∧ w'.cell? ⟨b, off + (p + 2), none⟩ = some (.int .i64 q2)) (by kernel_rfl) (by kernel_rfl) rfl (by kernel_rfl) (fun _ _ d _ _ h => by cases d <;> exact h) (by exact ⟨(hnx.drew.cell (p := ⟨b, off + p, none⟩) hbw).trans m0, (hnx.drew.cell (p := ⟨b, off + (p + 1), none⟩) hbw).trans m1, (hnx.drew.cell (p := ⟨b, off + (p + 2), none⟩) hbw).trans m2⟩) ?_
          simp only [psOf, List.getD_cons_zero, List.getD_cons_succ]
          repeat (first | (refine HP.take (v := ?_) (by rfl) ?_ ?_; rotate_left; (· (intro w hSw; (try dsimp only at hSw); go_simp; try with_reducible rfl)); (try simp only [Act.put, List.setIfInBounds_toArray, List.set_cons_zero, List.set_cons_succ])) | (refine HP.skip (by rfl) ?_; (try simp only [Act.put, List.setIfInBounds_toArray, List.set_cons_zero, List.set_cons_succ])))
          refine HP.both ?_ ?_
          · have hx1 := hnx.drew.alloc (.cells #[.int .i64 q0, .int .i64 q1, .int .i64 q2] 202)
            have hw1 := (owns_nx3 hw (Nx.refl wr).drew).alloc (.cells #[.int .i64 q0, .int .i64 q1, .int .i64 q2] 202)
            have bz := (bg.nx (Nx.refl wr).drew).alloc (.cells #[.int .i64 q0, .int .i64 q1, .int .i64 q2] 202)
            have HNW := Lib.hid (news3 wr.drew 202 (.int .i64 q0) (.int .i64 q1) (.int .i64 q2))
            have hlt := bg.lt
            refine CallStep.mk (by rfl) (fun K hK => ?_)
            go_simp
            refine hK.out _ _ (by exact ⟨(hnx.drew.cell (p := ⟨b, off + p, none⟩) hbw).trans m0, (hnx.drew.cell (p := ⟨b, off + (p + 1), none⟩) hbw).trans m1, (hnx.drew.cell (p := ⟨b, off + (p + 2), none⟩) hbw).trans m2⟩) ?_
            clear hK K
            try simp only [Act.put, List.setIfInBounds_toArray, List.set_cons_zero, List.set_cons_succ]
            refine HP.call ?_
            refine CallStep.mk (by rfl) (fun K hK => ?_)
            go_simp
            refine hK.out _ _ (by exact ⟨(hx1.cell (p := ⟨b, off + p, none⟩) hbw).trans m0, (hx1.cell (p := ⟨b, off + (p + 1), none⟩) hbw).trans m1, (hx1.cell (p := ⟨b, off + (p + 2), none⟩) hbw).trans m2⟩) ?_
            clear hK K
            try simp only [Act.put, List.setIfInBounds_toArray, List.set_cons_zero, List.set_cons_succ]
            change HP _ _ _ _ _ _ (wr.drew.alloc (.cells #[.int .i64 q0, .int .i64 q1, .int .i64 q2] 202))
            generalize wr.drew.alloc (.cells #[.int .i64 q0, .int .i64 q1, .int .i64 q2] 202) = wz at *
            refine HP.call ?_
            refine CallStep.mk (by rfl) (fun K hK => ?_)
            refine wp_append_own wz _ _ 128 rfl w1.heap.size 202 i0 _ 3 24 Tryz.underlying128 hi0 hz0 hz1 hz2 rfl (by omega) v k _ rfl hw1 ⟨wr.heap.size, 0, none⟩ 1 1 [.int .i64 q0, .int .i64 q1, .int .i64 q2] rfl rfl HNW.out HO.out (by unfold maxLen; omega) (by omega) hx1.size ?_
            intro v2 w2 hw2 hg2 _
            obtain ⟨g2, cp2, rfl, _, _⟩ := hw2.form (by omega)
            have hx2 : Nx w1 w2 := Below.grown hx1 hg2 hx1.size (fun k hk => (hw1.lt k hk).1)
            have bg2 : Box w2 w1.heap.size 130 #[.int .i64 n0, .int .i64 n1, .int .i64 n2, v] := bz.grown hg2 (owns_ne hw1 bz)
            refine hK.out _ _ (by exact ⟨(hx2.cell (p := ⟨b, off + p, none⟩) hbw).trans m0, (hx2.cell (p := ⟨b, off + (p + 1), none⟩) hbw).trans m1, (hx2.cell (p := ⟨b, off + (p + 2), none⟩) hbw).trans m2⟩) ?_
            clear hK K
            try simp only [Act.put, List.setIfInBounds_toArray, List.set_cons_zero, List.set_cons_succ]
            repeat (first | (refine HP.take (v := ?_) (by rfl) ?_ ?_; rotate_left; (· (intro w hSw; (try dsimp only at hSw); go_simp; try with_reducible rfl)); (try simp only [Act.put, List.setIfInBounds_toArray, List.set_cons_zero, List.set_cons_succ])) | (refine HP.skip (by rfl) ?_; (try simp only [Act.put, List.setIfInBounds_toArray, List.set_cons_zero, List.set_cons_succ])))
            obtain ⟨_, _, _, d3⟩ := bg2.d4
            have f3 := bg2.frozen 3
            refine HP.call ?_
            refine CallStep.mk (by rfl) (fun K hK => ?_)
            go_simp
            have hx3 := hx2.setCell (p := ⟨w1.heap.size, 3, none⟩) hgG (.slice (some ⟨g2, 0, none⟩) (k + 1) cp2)
            refine hK.out _ _ (by exact ⟨(hx3.cell (p := ⟨b, off + p, none⟩) hbw).trans m0, (hx3.cell (p := ⟨b, off + (p + 1), none⟩) hbw).trans m1, (hx3.cell (p := ⟨b, off + (p + 2), none⟩) hbw).trans m2⟩) ?_
            clear hK K
            try simp only [Act.put, List.setIfInBounds_toArray, List.set_cons_zero, List.set_cons_succ]
            refine HP.done ?_
            clear hw1a hw1b hw1c hw2a hw2b hw3a hw3b hw4a hw4b
            have bg3 := bg2.set 3 (.slice (some ⟨g2, 0, none⟩) (k + 1) cp2)
            have hw3 := owns_far (u := (.slice (some ⟨g2, 0, none⟩) (k + 1) cp2)) (i := 3) hw2 bg2
            clear d3 f3 c3
            go_wp2
            go_roundw
            case rel =>
              refine ⟨k + 1, p + 3, _, by omega, Lib.hid (by have := HPp.out; omega), by go_num, bg3, ?_, hx3⟩
              rw [chsV_succ, HQ.out]; exact hw3
            case measure => simp [intOf]; omega
          · have hx1 := hnx.drew.alloc (.cells #[.int .i64 q0, .int .i64 q1, .int .i64 q2] 202)
            have hw1 := (owns_nx3 hw (Nx.refl wr).drew).alloc (.cells #[.int .i64 q0, .int .i64 q1, .int .i64 q2] 202)
            have bz := (bg.nx (Nx.refl wr).drew).alloc (.cells #[.int .i64 q0, .int .i64 q1, .int .i64 q2] 202)
            have HNW := Lib.hid (news3 wr.drew 202 (.int .i64 q0) (.int .i64 q1) (.int .i64 q2))
            have hlt := bg.lt
            refine CallStep.mk (by rfl) (fun K hK => ?_)
            go_simp
            refine hK.out _ _ (by exact ⟨(hx1.cell (p := ⟨b, off + p, none⟩) hbw).trans m0, (hx1.cell (p := ⟨b, off + (p + 1), none⟩) hbw).trans m1, (hx1.cell (p := ⟨b, off + (p + 2), none⟩) hbw).trans m2⟩) ?_
            clear hK K
            try simp only [Act.put, List.setIfInBounds_toArray, List.set_cons_zero, List.set_cons_succ]
            refine HP.call ?_
            refine CallStep.mk (by rfl) (fun K hK => ?_)
            go_simp
            refine hK.out _ _ (by exact ⟨(hx1.cell (p := ⟨b, off + p, none⟩) hbw).trans m0, (hx1.cell (p := ⟨b, off + (p + 1), none⟩) hbw).trans m1, (hx1.cell (p := ⟨b, off + (p + 2), none⟩) hbw).trans m2⟩) ?_
            clear hK K
            try simp only [Act.put, List.setIfInBounds_toArray, List.set_cons_zero, List.set_cons_succ]
            change HP _ _ _ _ _ _ (wr.drew.alloc (.cells #[.int .i64 q0, .int .i64 q1, .int .i64 q2] 202))
            generalize wr.drew.alloc (.cells #[.int .i64 q0, .int .i64 q1, .int .i64 q2] 202) = wz at *
            refine HP.call ?_
            refine CallStep.mk (by rfl) (fun K hK => ?_)
            refine wp_append_own wz _ _ 128 rfl w1.heap.size 202 i0 _ 3 24 Tryz.underlying128 hi0 hz0 hz1 hz2 rfl (by omega) v k _ rfl hw1 ⟨wr.heap.size, 0, none⟩ 1 1 [.int .i64 q0, .int .i64 q1, .int .i64 q2] rfl rfl HNW.out HO.out (by unfold maxLen; omega) (by omega) hx1.size ?_
            intro v2 w2 hw2 hg2 _
            obtain ⟨g2, cp2, rfl, _, _⟩ := hw2.form (by omega)
            have hx2 : Nx w1 w2 := Below.grown hx1 hg2 hx1.size (fun k hk => (hw1.lt k hk).1)
            have bg2 : Box w2 w1.heap.size 130 #[.int .i64 n0, .int .i64 n1, .int .i64 n2, v] := bz.grown hg2 (owns_ne hw1 bz)
            refine hK.out _ _ (by exact ⟨(hx2.cell (p := ⟨b, off + p, none⟩) hbw).trans m0, (hx2.cell (p := ⟨b, off + (p + 1), none⟩) hbw).trans m1, (hx2.cell (p := ⟨b, off + (p + 2), none⟩) hbw).trans m2⟩) ?_
            clear hK K
            try simp only [Act.put, List.setIfInBounds_toArray, List.set_cons_zero, List.set_cons_succ]
            repeat (first | (refine HP.take (v := ?_) (by rfl) ?_ ?_; rotate_left; (· (intro w hSw; (try dsimp only at hSw); go_simp; try with_reducible rfl)); (try simp only [Act.put, List.setIfInBounds_toArray, List.set_cons_zero, List.set_cons_succ])) | (refine HP.skip (by rfl) ?_; (try simp only [Act.put, List.setIfInBounds_toArray, List.set_cons_zero, List.set_cons_succ])))
            obtain ⟨_, _, _, d3⟩ := bg2.d4
            have f3 := bg2.frozen 3
            refine HP.call ?_
            refine CallStep.mk (by rfl) (fun K hK => ?_)
            go_simp
            have hx3 := hx2.setCell (p := ⟨w1.heap.size, 3, none⟩) hgG (.slice (some ⟨g2, 0, none⟩) (k + 1) cp2)
            refine hK.out _ _ (by exact ⟨(hx3.cell (p := ⟨b, off + p, none⟩) hbw).trans m0, (hx3.cell (p := ⟨b, off + (p + 1), none⟩) hbw).trans m1, (hx3.cell (p := ⟨b, off + (p + 2), none⟩) hbw).trans m2⟩) ?_
            clear hK K
            try simp only [Act.put, List.setIfInBounds_toArray, List.set_cons_zero, List.set_cons_succ]
            refine HP.done ?_
            clear hw1a hw1b hw1c hw2a hw2b hw3a hw3b hw4a hw4b
            have bg3 := bg2.set 3 (.slice (some ⟨g2, 0, none⟩) (k + 1) cp2)
            have hw3 := owns_far (u := (.slice (some ⟨g2, 0, none⟩) (k + 1) cp2)) (i := 3) hw2 bg2
            clear d3 f3 c3
            go_wp2
            go_roundw
            case rel =>
              refine ⟨k + 1, p + 3, _, by omega, Lib.hid (by have := HPp.out; omega), by go_num, bg3, ?_, hx3⟩
              rw [chsV_succ, HQ.out]; exact hw3
            case measure => simp [intOf]; omega
        · obtain rfl : p = ns.length := by omega
          have hkN : k = ns.length / 3 - 1 := by have := HPp.out; omega
          have hlen := chOf_len ns k
          have hw' : wr.ownsRow w1.heap.size 202 3 v (chOf ns k).length (chsV (chOf ns k)) := by rw [hlen]; exact hw
          obtain ⟨A2, cp9, rfl, hSl⟩ := owns_slC hw'
          have HQ4 := Lib.hid (show sgOf ns = (n0, n1, n2, chOf ns k) by unfold sgOf; rw [Hn0.out, Hn1.out, Hn2.out, ← hkN])
          have hcl9 : (chOf ns k).length ≤ 1048576 := by rw [hlen]; have := HNL.out; omega
          have bw := b1.nx hnx
          have hxr := hxw.trans hnx
          have hgl : w.heap.size < w1.heap.size := b1.lt
          clear hw hw' hlen hkN
          obtain ⟨x0, x1, x2, x3⟩ := bg.d4
          go_wp2_with fail
          refine (segRight_c n0 n1 n2 A2 cp9 _ (chOf ns k) _ hSl.row (Nat.le_refl _) hcl9).mono ?_
          rintro e w5 ⟨rfl, hnx5⟩
          have b5 := bw.nx hnx5
          have bg5 := bg.nx hnx5
          have hx5 := hxr.trans hnx5
          have hS5 := hSl.nx hnx5
          clear x0 x1 x2 x3
          obtain ⟨x0, x1, x2, x3⟩ := bg5.d4
          cases hf : segB n0 n1 n2 (chOf ns k) with
          | false =>
            have HF := Lib.hid (rdG_no HN.out (by unfold g4B; rw [HQ4.out]; exact hf))
            clear hf
            obtain ⟨c0, c1, c2, c3⟩ := b5.d4
            have f0 := b5.frozen 0
            have f1 := b5.frozen 1
            have f2 := b5.frozen 2
            have f3 := b5.frozen 3
            have hlt := b5.lt
            go_wp2_with fail
            refine wp_region_lex [false, false, true, false] (fun w' => w'.cell? ⟨0, 0, none⟩ = some (.iface 304 (.pointer (some a0)))) (by kernel_rfl) (by kernel_rfl) rfl (by kernel_rfl) (fun _ _ d _ _ h => by cases d <;> exact h) (by exact ((hx5.drew).cell (p := ⟨0, 0, none⟩) hg0).trans e0) ?_
            repeat (first | (refine HL.take (v := ?_) (by rfl) ?_ ?_; rotate_left; (· (intro w hSw; (try dsimp only at hSw); go_simp; try with_reducible rfl)); (try simp only [Act.put, List.setIfInBounds_toArray, List.set_cons_zero, List.set_cons_succ])) | (refine HL.skip (by rfl) ?_; (try simp only [Act.put, List.setIfInBounds_toArray, List.set_cons_zero, List.set_cons_succ])))
            refine HL.call (by rfl) (fun K hK => ?_)
            go_simp
            refine hK.out _ _ (by exact (put4_nx hx5.drew (Nat.le_refl w.heap.size) (.int .i64 0) (.int .i64 0) (.int .i64 0) (.slice none 0 0)).cell (p := ⟨0, 0, none⟩) hg0 |>.trans e0) ?_
            clear hK K
            try simp only [Act.put, List.setIfInBounds_toArray, List.set_cons_zero, List.set_cons_succ]
            repeat (first | (refine HL.take (v := ?_) (by rfl) ?_ ?_; rotate_left; (· (intro w hSw; (try dsimp only at hSw); go_simp; try with_reducible rfl)); (try simp only [Act.put, List.setIfInBounds_toArray, List.set_cons_zero, List.set_cons_succ])) | (refine HL.skip (by rfl) ?_; (try simp only [Act.put, List.setIfInBounds_toArray, List.set_cons_zero, List.set_cons_succ])))
            refine HL.done ?_
            clear c0 c1 c2 c3 f0 f1 f2 f3
            go_wp2
            have q := (put4_box b5 (.int .i64 0) (.int .i64 0) (.int .i64 0) (.slice none 0 0))
            have hnf := (put4_nx hx5 (Nat.le_refl w.heap.size) (.int .i64 0) (.int .i64 0) (.int .i64 0) (.slice none 0 0)).drew
            change bodyPost _ _ _ _ _ (World.drew (put4 w5 w.heap.size (.int .i64 0) (.int .i64 0) (.int .i64 0) (.slice none 0 0)))
            change Box (World.drew (put4 w5 w.heap.size (.int .i64 0) (.int .i64 0) (.int .i64 0) (.slice none 0 0))) _ _ _ at q
            generalize World.drew (put4 w5 w.heap.size (.int .i64 0) (.int .i64 0) (.int .i64 0) (.slice none 0 0)) = Wf at *
            obtain ⟨g0, g1, g2, g3⟩ := q.d4
            exact bodyPost_ret (v := .tuple #[.agg #[.int .i64 0, .int .i64 0, .int .i64 0, .slice none 0 0], .iface 304 (.pointer (some a0))]) (by simp [results, Tryz.results216, go_sem, g0, g1, g2, g3]) rfl (RetST.no HF.out hnf)
          | true =>
            have HF := Lib.hid (rdG_yes HN.out HOL.out (by unfold g4B; rw [HQ4.out]; exact hf))
            clear hf
            obtain ⟨c0, c1, c2, c3⟩ := b5.d4
            have f0 := b5.frozen 0
            have f1 := b5.frozen 1
            have f2 := b5.frozen 2
            have f3 := b5.frozen 3
            go_wp2
            have q := (put4_box b5 (.int .i64 n0) (.int .i64 n1) (.int .i64 n2) (.slice A2 (chOf ns k).length cp9))
            have hnf := (put4_nx hx5 (Nat.le_refl w.heap.size) (.int .i64 n0) (.int .i64 n1) (.int .i64 n2) (.slice A2 (chOf ns k).length cp9))
            have hsf := (hS5.put4 hgl (.int .i64 n0) (.int .i64 n1) (.int .i64 n2) (.slice A2 (chOf ns k).length cp9))
            change Sl (put4 w5 w.heap.size (.int .i64 n0) (.int .i64 n1) (.int .i64 n2) (.slice A2 (chOf ns k).length cp9)) _ _ _ _ _ at hsf
            change bodyPost _ _ _ _ _ (put4 w5 w.heap.size (.int .i64 n0) (.int .i64 n1) (.int .i64 n2) (.slice A2 (chOf ns k).length cp9))
            change Box (put4 w5 w.heap.size (.int .i64 n0) (.int .i64 n1) (.int .i64 n2) (.slice A2 (chOf ns k).length cp9)) _ _ _ at q
            generalize put4 w5 w.heap.size (.int .i64 n0) (.int .i64 n1) (.int .i64 n2) (.slice A2 (chOf ns k).length cp9) = Wf at *
            obtain ⟨g0, g1, g2, g3⟩ := q.d4
            exact bodyPost_ret (v := .tuple #[.agg #[.int .i64 n0, .int .i64 n1, .int .i64 n2, .slice A2 (chOf ns k).length cp9], .nilIface]) (by simp [results, Tryz.results216, go_sem, g0, g1, g2, g3]) rfl (RetST.yes HF.out HQ4.out (hsf.low (by omega)) hnf)
end Go.Proofs.YtehahodomfbpjaaGreatDoor
/- Values of loading: which vault a disk has. Nothing here speaks of memory. Conditions: none. -/
namespace Go.Proofs.YtehahodomfbpjaaGreatDoor
set_option linter.unusedVariables false
set_option maxRecDepth 100000
open Go.RowKit

def gR (q : G4) : SgR := ⟨q.1, q.2.1, q.2.2.1, none, 0, q.2.2.2⟩
/-- The segment that a sector has; what it is, zero of none. -/
def ldG (ss : List ByteArray) (ws : List (Int × ByteArray)) (x : Int) : Option G4 := rdG (readP ss ws x.toNat)
def ldS (ss : List ByteArray) (ws : List (Int × ByteArray)) (x : Int) : SgR := ((ldG ss ws x).map gR).getD sgZ
/-- The image's j-th number. -/
def oneN : Option (List Nat) → Option Int
  | some [x] => some (x : Int)
  | _ => none
def ldI (ss : List ByteArray) (ws : List (Int × ByteArray)) (j : Nat) : Option Int := oneN (rdN (readP ss ws (2 + j)))
def ldX (ss : List ByteArray) (ws : List (Int × ByteArray)) (j : Nat) : Int := (ldI ss ws j).getD 0
def zVl : Vl := ⟨0, 0, 0, 0, none, 0, [], none, 0, [], none, 0, [], none, 0, []⟩
def vlU (u : U6) (gs : List SgR) (im : List Int) : Vl := ⟨u.1, u.2.1, u.2.2.1, u.2.2.2.1, none, 0, u.2.2.2.2.1, none, 0, u.2.2.2.2.2, none, 0, gs, none, 0, im⟩
def ldOk (ss : List ByteArray) (ws : List (Int × ByteArray)) (u : U6) : Bool := (u.2.2.2.2.1.all fun x => (ldG ss ws x).isSome) && (List.range 8).all fun j => (ldI ss ws j).isSome
def ldW (ss : List ByteArray) (ws : List (Int × ByteArray)) (u : U6) : Vl := vlU u (u.2.2.2.2.1.map (ldS ss ws)) ((List.range 8).map (ldX ss ws))
/-- The vault of a disk that is right, and a code; what LoadVault answers. -/
def ldV (ss : List ByteArray) (ws : List (Int × ByteArray)) : Vl × Int :=
  match newU (rdU (readP ss ws 0)) (rdU (readP ss ws 1)) with
  | none => (zVl, 19)
  | some (u, _) => if ldOk ss ws u && (ldW ss ws u).ok then (ldW ss ws u, 0) else (zVl, 10)
def ldA (ss : List ByteArray) (ws : List (Int × ByteArray)) : Vl × Int := if diskB ss ws then ldV ss ws else (zVl, 1)
theorem ldA_bad {ss : List ByteArray} {ws : List (Int × ByteArray)} (h : diskB ss ws = false) : ldA ss ws = (zVl, 1) := by unfold ldA; rw [h]; rfl
theorem ldA_yes {ss : List ByteArray} {ws : List (Int × ByteArray)} (h : diskB ss ws = true) : ldA ss ws = ldV ss ws := by unfold ldA; rw [h]; rfl
theorem ldV_none {ss : List ByteArray} {ws : List (Int × ByteArray)} (h : newU (rdU (readP ss ws 0)) (rdU (readP ss ws 1)) = none) : ldV ss ws = (zVl, 19) := by unfold ldV; rw [h]
theorem ldV_some {ss : List ByteArray} {ws : List (Int × ByteArray)} {u : U6} {s : Int} (h : newU (rdU (readP ss ws 0)) (rdU (readP ss ws 1)) = some (u, s)) :
    ldV ss ws = if ldOk ss ws u && (ldW ss ws u).ok then (ldW ss ws u, 0) else (zVl, 10) := by unfold ldV; rw [h]
theorem ldV_seg {ss : List ByteArray} {ws : List (Int × ByteArray)} {u : U6} {s : Int} {k : Nat} (h : newU (rdU (readP ss ws 0)) (rdU (readP ss ws 1)) = some (u, s)) (hk : k < u.2.2.2.2.1.length) (hg : ldG ss ws (u.2.2.2.2.1.getD k 0) = none) : ldV ss ws = (zVl, 10) := by
  rw [ldV_some h]
  have : (u.2.2.2.2.1.all fun x => (ldG ss ws x).isSome) = false := List.all_eq_false.2 ⟨u.2.2.2.2.1.getD k 0, by rw [List.getD_eq_getElem?_getD, List.getElem?_eq_getElem hk]; exact List.getElem_mem hk, by rw [hg]; simp⟩
  unfold ldOk; rw [this]; rfl
theorem ldV_img {ss : List ByteArray} {ws : List (Int × ByteArray)} {u : U6} {s : Int} {j : Nat} (h : newU (rdU (readP ss ws 0)) (rdU (readP ss ws 1)) = some (u, s)) (hj : j < 8) (hg : ldI ss ws j = none) : ldV ss ws = (zVl, 10) := by
  rw [ldV_some h]
  have : ((List.range 8).all fun j => (ldI ss ws j).isSome) = false := List.all_eq_false.2 ⟨j, by simpa using hj, by rw [hg]; simp⟩
  unfold ldOk; rw [this]; simp
theorem ldV_wrong {ss : List ByteArray} {ws : List (Int × ByteArray)} {u : U6} {s : Int} (h : newU (rdU (readP ss ws 0)) (rdU (readP ss ws 1)) = some (u, s)) (hv : (ldW ss ws u).ok = false) : ldV ss ws = (zVl, 10) := by
  rw [ldV_some h, hv]; simp
theorem ldV_yes {ss : List ByteArray} {ws : List (Int × ByteArray)} {u : U6} {s : Int} (h : newU (rdU (readP ss ws 0)) (rdU (readP ss ws 1)) = some (u, s)) (ho : ldOk ss ws u = true) (hv : (ldW ss ws u).ok = true) : ldV ss ws = (ldW ss ws u, 0) := by
  rw [ldV_some h, ho, hv]; rfl
/-- The first k segments are read. -/
structure GsTo (ss : List ByteArray) (ws : List (Int × ByteArray)) (xs : List Int) (k : Nat) (gs : List SgR) : Prop where
  len : gs.length = k
  ok : ∀ j, j < k → (ldG ss ws (xs.getD j 0)).isSome = true
  v : gs.map SgR.v = (xs.take k).map fun x => (ldS ss ws x).v
theorem GsTo.nil (ss : List ByteArray) (ws : List (Int × ByteArray)) (xs : List Int) : GsTo ss ws xs 0 [] := ⟨rfl, fun j h => absurd h (by omega), rfl⟩
theorem GsTo.snoc {ss : List ByteArray} {ws : List (Int × ByteArray)} {xs : List Int} {k : Nat} {gs : List SgR} {q : G4} (h : GsTo ss ws xs k gs) (hk : k < xs.length) (hq : ldG ss ws (xs.getD k 0) = some q) (A : Option Addr) (c : Nat) :
    GsTo ss ws xs (k + 1) (gs ++ [⟨q.1, q.2.1, q.2.2.1, A, c, q.2.2.2⟩]) := by
  refine ⟨by rw [List.length_append, h.len]; rfl, fun j hj => ?_, ?_⟩
  · rcases Nat.lt_or_ge j k with hl | hl
    · exact h.ok j hl
    · obtain rfl : j = k := by omega
      rw [hq]; rfl
  · have e : xs[k] = xs.getD k 0 := by rw [List.getD_eq_getElem?_getD, List.getElem?_eq_getElem hk]; rfl
    rw [List.map_append, h.v, List.take_succ_eq_append_getElem hk, List.map_append]
    congr 1
    show [_] = [_]
    congr 1
    show _ = (ldS ss ws xs[k]).v
    unfold ldS
    rw [e, hq]; rfl
/-- The first k numbers of the image are read. -/
structure ImTo (ss : List ByteArray) (ws : List (Int × ByteArray)) (k : Nat) (im : List Int) : Prop where
  eq : im = (List.range k).map (ldX ss ws)
  ok : ∀ j, j < k → (ldI ss ws j).isSome = true
theorem ImTo.nil (ss : List ByteArray) (ws : List (Int × ByteArray)) : ImTo ss ws 0 [] := ⟨rfl, fun j h => absurd h (by omega)⟩
theorem ImTo.len {ss : List ByteArray} {ws : List (Int × ByteArray)} {k : Nat} {im : List Int} (h : ImTo ss ws k im) : im.length = k := by rw [h.eq]; simp
theorem ImTo.snoc {ss : List ByteArray} {ws : List (Int × ByteArray)} {k : Nat} {im : List Int} {x : Int} (h : ImTo ss ws k im) (hx : ldI ss ws k = some x) : ImTo ss ws (k + 1) (im ++ [x]) := by
  refine ⟨?_, fun j hj => ?_⟩
  · rw [List.range_succ, List.map_append, h.eq]
    congr 1
    show [x] = [ldX ss ws k]
    unfold ldX; rw [hx]; rfl
  · rcases Nat.lt_or_ge j k with hl | hl
    · exact h.ok j hl
    · obtain rfl : j = k := by omega
      rw [hx]; rfl
theorem ldOk_of {ss : List ByteArray} {ws : List (Int × ByteArray)} {u : U6} {gs : List SgR} {im : List Int} (h : GsTo ss ws u.2.2.2.2.1 u.2.2.2.2.1.length gs) (h2 : ImTo ss ws 8 im) : ldOk ss ws u = true := by
  unfold ldOk
  rw [Bool.and_eq_true]
  refine ⟨List.all_eq_true.2 fun x hx => ?_, List.all_eq_true.2 fun j hj => h2.ok j (by simpa using hj)⟩
  obtain ⟨j, hj, e⟩ := List.getElem_of_mem hx
  have := h.ok j hj
  rw [List.getD_eq_getElem?_getD, List.getElem?_eq_getElem hj] at this
  simpa [e] using this
/-- What is read, in memory, is what loading says. -/
theorem ldW_s {ss : List ByteArray} {ws : List (Int × ByteArray)} {g b p t : Int} {xs : List Int} {ms : List Mrk} {gs : List SgR} {im : List Int} (h : GsTo ss ws xs xs.length gs) (h2 : ImTo ss ws 8 im) (A : Option Addr) (c : Nat) (A2 : Option Addr) (c2 : Nat) (A3 : Option Addr) (c3 : Nat) (A4 : Option Addr) (c4 : Nat) :
    VlS (ldW ss ws (g, b, p, t, xs, ms)) ⟨g, b, p, t, A, c, xs, A2, c2, ms, A3, c3, gs, A4, c4, im⟩ :=
  ⟨rfl, rfl, rfl, rfl, rfl, rfl, by
    show gs.map SgR.v = (xs.map (ldS ss ws)).map SgR.v
    rw [h.v, List.take_length, List.map_map]; rfl, h2.eq⟩
theorem rdN_le {t : ByteArray} {ns : List Nat} (h : rdN t = some ns) : ns.length ≤ t.size := by
  unfold rdN at h
  cases ho : opensB t with
  | false => rw [ho] at h; cases h
  | true =>
    rw [ho] at h
    unfold numsO at h
    by_cases hc : (bodyOf t).data.toList.length % 6 = 0 ∧ digL (bodyOf t).data.toList = true
    · simp only [if_true, if_pos hc] at h
      injection h with h
      subst h
      rw [numsOf_len, ← ba_size]
      have := bodyOf_size t
      omega
    · simp only [if_true, if_neg hc] at h; cases h
theorem rdG_short {t : ByteArray} {q : G4} (h : rdG t = some q) : q.2.2.2.length ≤ t.size := by
  unfold rdG at h
  cases hr : rdN t with
  | none => rw [hr] at h; cases h
  | some ns =>
    rw [hr] at h
    have h2 : (if (okLen ns && g4B (sgOf ns)) = true then some (sgOf ns) else none) = some q := h
    have hn := rdN_le hr
    split at h2
    · injection h2 with h2
      subst h2
      show (chOf ns (ns.length / 3 - 1)).length ≤ _
      rw [chOf_len]; omega
    · cases h2
/-- Rows of changes told apart. -/
def Dj (gs : List SgR) : Prop := ∀ i j, i < gs.length → j < gs.length → i ≠ j → 0 < (gs.getD i sgZ).cs.length → 0 < (gs.getD j sgZ).cs.length → (gs.getD i sgZ).A ≠ (gs.getD j sgZ).A
theorem Dj.nil : Dj [] := fun i j h => absurd h (by simp)
theorem Dj.snoc {w : World} {lo : Nat} {gs : List SgR} {g : SgR} {w' : World} (h : Dj gs) (hc : ∀ k, k < gs.length → Sl w lo (gs.getD k sgZ).A 202 ((gs.getD k sgZ).cs.length * 3) (chAt (gs.getD k sgZ).cs)) (hg : Sl w' w.heap.size g.A 202 (g.cs.length * 3) (chAt g.cs)) : Dj (gs ++ [g]) := by
  have key : ∀ i, i < gs.length → 0 < (gs.getD i sgZ).cs.length → 0 < g.cs.length → (gs.getD i sgZ).A ≠ g.A := fun i hi h1 h2 e => by
    obtain ⟨b, e1, _, ho⟩ := hc i hi (by omega)
    obtain ⟨b', e2, hl, _⟩ := hg (by omega)
    have := ho.lt
    rw [e1, e2] at e
    injection e with e
    injection e with e _ _
    omega
  intro i j hi hj hne h1 h2
  rw [List.length_append] at hi hj
  simp only [List.length_cons, List.length_nil] at hi hj
  by_cases ei : i < gs.length
  · rw [getD_app_lt gs g ei] at h1 ⊢
    by_cases ej : j < gs.length
    · rw [getD_app_lt gs g ej] at h2 ⊢
      exact h i j ei ej hne h1 h2
    · obtain rfl : j = gs.length := by omega
      rw [getD_app] at h2 ⊢
      exact key i ei h1 h2
  · obtain rfl : i = gs.length := by omega
    rw [getD_app] at h1 ⊢
    by_cases ej : j < gs.length
    · rw [getD_app_lt gs g ej] at h2 ⊢
      exact fun e => key j ej h2 h1 e.symm
    · omega
/-- A vault of the call's own, its rows told apart: table and marks lie below mid, the rest from there on. -/
structure VlP (w : World) (lo mid hi : Nat) (V : Vl) : Prop where
  tab : Sr w lo mid V.A 3 V.xs.length (inAt V.xs)
  mks : Sr w lo mid V.A2 199 (V.ms.length * 2) (mrAt V.ms)
  row : Sr w mid hi V.A3 130 (V.gs.length * 4) (sgAt V.gs)
  chs : ∀ k, k < V.gs.length → Sr w mid hi (V.gs.getD k sgZ).A 202 ((V.gs.getD k sgZ).cs.length * 3) (chAt (V.gs.getD k sgZ).cs)
  img : Sr w mid hi V.A4 3 V.im.length (inAt V.im)
  dj : Dj V.gs
  cap : V.xs.length ≤ V.c
  cap3 : V.gs.length ≤ V.c3
  le : lo ≤ mid
  le2 : mid ≤ hi
theorem VlP.nx {w w' : World} {lo mid hi : Nat} {V : Vl} (h : VlP w lo mid hi V) (hb : Nx w w') : VlP w' lo mid hi V := ⟨h.tab.nx hb, h.mks.nx hb, h.row.nx hb, fun k hk => (h.chs k hk).nx hb, h.img.nx hb, h.dj, h.cap, h.cap3, h.le, h.le2⟩
theorem Sr.low {w : World} {lo lo' hi m : Nat} {A : Option Addr} {t : TypeId} {f : Nat → Value} (h : Sr w lo hi A t m f) (hl : lo' ≤ lo) : Sr w lo' hi A t m f := fun hm => by
  obtain ⟨g, e, h1, h2, ho⟩ := h hm; exact ⟨g, e, by omega, h2, ho⟩
theorem Sr.up {w : World} {lo hi hi' m : Nat} {A : Option Addr} {t : TypeId} {f : Nat → Value} (h : Sr w lo hi A t m f) (hl : hi ≤ hi') : Sr w lo hi' A t m f := fun hm => by
  obtain ⟨g, e, h1, h2, ho⟩ := h hm; exact ⟨g, e, h1, by omega, ho⟩
theorem VlP.own {w : World} {lo mid hi : Nat} {V : Vl} (h : VlP w lo mid hi V) : VlO w lo V :=
  ⟨h.tab.sl, h.mks.sl, ⟨(h.row.low h.le).sl, fun k hk => ((h.chs k hk).low h.le).sl⟩, (h.img.low h.le).sl, h.cap, h.cap3⟩
theorem VlP.low {w : World} {lo lo' mid hi : Nat} {V : Vl} (h : VlP w lo mid hi V) (hl : lo' ≤ lo) : VlP w lo' mid hi V := ⟨h.tab.low hl, h.mks.low hl, h.row, h.chs, h.img, h.dj, h.cap, h.cap3, by have := h.le; omega, h.le2⟩
theorem VlP.up {w : World} {lo mid hi hi' : Nat} {V : Vl} (h : VlP w lo mid hi V) (hl : hi ≤ hi') : VlP w lo mid hi' V := ⟨h.tab, h.mks, h.row.up hl, fun k hk => (h.chs k hk).up hl, h.img.up hl, h.dj, h.cap, h.cap3, h.le, by have := h.le2; omega⟩
theorem VlP.zero (w : World) {lo hi : Nat} (h : lo ≤ hi) : VlP w lo lo hi zVl := ⟨fun h => absurd h (by simp [zVl]), fun h => absurd h (by simp [zVl]), fun h => absurd h (by simp [zVl]), fun k h => absurd h (by simp [zVl]), fun h => absurd h (by simp [zVl]), Dj.nil, Nat.le_refl _, Nat.le_refl _, Nat.le_refl _, h⟩
/-- What LoadVault leaves. -/
def RetLd (w : World) (y : Vl × Int) (e : Ending) (w' : World) : Prop :=
  ∃ V' mid, e = .returned (.tuple #[V'.v, .int .i64 y.2]) ∧ VlS y.1 V' ∧ VlP w' w.heap.size mid w'.heap.size V' ∧ Nx w w'
theorem VlS.refl (V : Vl) : VlS V V := ⟨rfl, rfl, rfl, rfl, rfl, rfl, rfl, rfl⟩
theorem ssum_bound {gs : List SgR} {m : Nat} (h : ∀ k, k < gs.length → (gs.getD k sgZ).cs.length ≤ m) : ∀ k, k ≤ gs.length → ssum gs k ≤ k * m
  | 0, _ => by rw [ssum_zero]; omega
  | k + 1, hk => by
    have h1 := ssum_bound h k (by omega)
    have h2 := h k (by omega)
    rw [ssum_succ (by omega), Nat.succ_mul]; omega
/-- The bounds that the laws' walks need. -/
structure VlB (V : Vl) : Prop where
  xs : V.xs.length ≤ 20
  ms : V.ms.length ≤ 4
  gs : V.gs.length ≤ 20
  cs : ∀ k, k < V.gs.length → (V.gs.getD k sgZ).cs.length ≤ 300
  im : V.im.length ≤ 8
  sum : ssum V.gs V.gs.length ≤ 6000
  mka : AllM V.ms
theorem VlB.zero : VlB zVl := ⟨by simp [zVl], by simp [zVl], by simp [zVl], fun k h => absurd h (by simp [zVl]), by simp [zVl], Nat.zero_le _, fun k => by simp [zVl, mrZ]⟩
theorem VlB.n {V : Vl} (h : VlB V) : VlN V 1048576 := ⟨by have := h.xs; omega, by have := h.ms; omega, by have := h.gs; omega, fun k hk => by have := h.cs k hk; omega, by have := h.im; omega⟩
theorem VlB.s {V V' : Vl} (h : VlB V) (hs : VlS V V') : VlB V' :=
  have hc : ∀ k, k < V'.gs.length → (V'.gs.getD k sgZ).cs.length ≤ 300 := v_cs hs.gs h.cs
  ⟨by rw [hs.xs]; exact h.xs, by rw [hs.ms]; exact h.ms, by rw [hs.len]; exact h.gs, hc, by rw [hs.im]; exact h.im, by
    have h1 := ssum_bound hc _ (Nat.le_refl _)
    have h2 := h.gs
    rw [← hs.len] at h2
    have := Nat.mul_le_mul_right 300 h2
    omega, by rw [hs.ms]; exact h.mka⟩
theorem msB_all {ms : List Mrk} (h : msB ms = true) : AllM ms := fun k => by
  rcases Nat.lt_or_ge k ms.length with hk | hk
  · have h1 := (msB_yes h).2 k hk
    unfold okMk mkB nmB at h1
    simp only [Bool.and_eq_true] at h1
    have := inB_yes h1.1.1.1
    omega
  · rw [List.getD_eq_getElem?_getD, List.getElem?_eq_none hk]; simp [mrZ]
end Go.Proofs.YtehahodomfbpjaaGreatDoor
/- Where a number stands in a list, as the library's Index tells it; rows of ints with one element. Conditions: at most 1048576 elements. -/
namespace Go.Proofs.YtehahodomfbpjaaGreatDoor
set_option linter.unusedVariables false
set_option maxRecDepth 100000
open Go.RowKit

theorem idx_not {xs : List Int} {x : Int} : ∀ {k : Nat}, NotTo xs k x → k ≤ xs.length → k ≤ idx xs x := by
  induction xs with
  | nil => intro k _ hk; simp at hk; omega
  | cons y xs ih =>
    intro k h hk
    rw [idx_cons]
    match k with
    | 0 => exact Nat.zero_le _
    | k + 1 =>
      have h0 := h 0 (by omega)
      rw [if_neg (by simpa using h0)]
      have := ih (k := k) (fun j hj => by have := h (j + 1) (by omega); simpa using this) (by rw [List.length_cons] at hk; omega)
      omega
theorem idx_hit {xs : List Int} {x : Int} {k : Nat} (h : NotTo xs k x) (hk : k < xs.length) (he : xs.getD k 0 = x) : idx xs x = k := by
  have h1 := idx_not h (by omega)
  have h2 := idx_lt hk he
  omega
theorem hasB_idx (xs : List Int) (x : Int) : hasB xs xs.length x = decide (idx xs x < xs.length) := by
  by_cases h : idx xs x < xs.length
  · rw [decide_eq_true h]; exact hasB_yes h h (idx_at h)
  · rw [decide_eq_false h]
    refine hasB_no fun j hj he => ?_
    have := idx_lt hj he
    omega
theorem isRet_hasB {b : Int} {gs : List SgR} {x : Int} {k : Nat} (hk : k = gs.length + 1) : hasB (retL b gs) k x = isRet b gs x := by
  subst hk
  have := hasB_idx (retL b gs) x
  rw [retL_len] at this
  exact this
/-- As Index tells it. -/
def idxI (xs : List Int) (x : Int) : Int := if idx xs x < xs.length then (idx xs x : Int) else -1
theorem idxI_hit {xs : List Int} {x : Int} {k : Nat} (h : NotTo xs k x) (hk : k < xs.length) (he : xs.getD k 0 = x) : (k : Int) = idxI xs x := by
  unfold idxI
  rw [idx_hit h hk he, if_pos hk]
theorem idxI_none {xs : List Int} {x : Int} (h : NotTo xs xs.length x) : -1 = idxI xs x := by
  unfold idxI
  have := idx_not h (Nat.le_refl _)
  rw [if_neg (by omega)]
theorem idxI_ahd {b : Int} {gs : List SgR} {x : Int} (h : isRet b gs x = true) : idxI (retL b gs) x = (ahd b gs x : Int) := by
  unfold isRet at h
  simp only [decide_eq_true_eq] at h
  unfold idxI
  rw [retL_len, if_pos h]; rfl
set_option maxHeartbeats 1000000 in
theorem indexI_c (A : Option Addr) (n c B : Nat) (xs : List Int) (x : Int) (w : World) (h : Ins w B A xs) (hl : n = xs.length) (hn : xs.length ≤ 1048576) :
    Calls Tryz.prog 231 #[.slice A n c, .int .i64 x] w fun e w' => e = .returned (.int .i64 (idxI xs x)) ∧ w = w' := by
  have Hl := Lib.hid hl
  have hn' : n ≤ 1048576 := by omega
  clear hl
  go_enter Tryz.func231, Tryz.ntmps231
  go_wp2
  go_loop [8] (fun i => ∃ k : Nat, k ≤ n ∧ i = .int .i64 k ∧ NotTo xs k x) (fun i => n - (intOf i).toNat)
  case atStart => exact ⟨0, Nat.zero_le _, rfl, NotTo.zero _ _⟩
  case round =>
    obtain ⟨k, hk, rfl, hto⟩ := hrel
    by_cases hlt : k < n
    · obtain ⟨b, off, rfl, hb, hc⟩ := h.at_ (k := k) (by have := Hl.out; omega)
      obtain ⟨y, Hy⟩ : ∃ y, Hid (xs.getD k 0 = y) := ⟨_, rfl⟩
      rw [Hy.out] at hc
      by_cases he : y = x
      · have hd : (x == y) = true := by simp [he]
        have HR := Lib.hid (idxI_hit hto (by have := Hl.out; omega) (Hy.out.trans he))
        clear he
        go_wp2
        go_ret
        exact ⟨ret_int HR.out, rfl⟩
      · have hd : (x == y) = false := by rw [beq_eq_false_iff_ne]; exact fun h => he h.symm
        have HT := Lib.hid (hto.succ (by rw [Hy.out]; exact he))
        clear he
        go_wp2
        go_round
        case rel => exact ⟨k + 1, by omega, by go_num, HT.out⟩
        case measure => simp [intOf]; omega
    · obtain rfl : k = n := by omega
      have HR := Lib.hid (idxI_none (xs := xs) (x := x) (by rw [← Hl.out]; exact hto))
      go_wp2
      go_ret
      exact ⟨ret_int HR.out, rfl⟩
theorem RowI.one (w : World) {B : Nat} (hB : B ≤ w.heap.size) (x : Int) : RowI (w.alloc (.cells #[.int .i64 x] 3)) B (.slice (some ⟨w.heap.size, 0, none⟩) 1 1) [x] :=
  ⟨rfl, .inr ⟨_, 1, #[.int .i64 x], rfl, hB, heap_alloc_new w _, by simp, by unfold maxLen; omega, rfl, rfl⟩⟩
/-- The first k of what is retained. -/
def retTo (b : Int) (gs : List SgR) (k : Nat) : List Int := b :: (gs.take k).map SgR.t
theorem retTo_succ {b : Int} {gs : List SgR} {k : Nat} (h : k < gs.length) : retTo b gs (k + 1) = retTo b gs k ++ [(gs.getD k sgZ).t] := by
  unfold retTo
  rw [List.take_succ_eq_append_getElem h, List.map_append, List.getD_eq_getElem?_getD, List.getElem?_eq_getElem h]; rfl
theorem retTo_len {b : Int} {gs : List SgR} {k : Nat} (h : k ≤ gs.length) : (retTo b gs k).length = k + 1 := by
  unfold retTo; simp; omega
theorem retTo_all (b : Int) (gs : List SgR) : retTo b gs gs.length = retL b gs := by
  unfold retTo retL; rw [List.take_length]
end Go.Proofs.YtehahodomfbpjaaGreatDoor
/- Contracts of the model: what is retained, contents that are alike. Conditions: what is read can be read, and holds at most 1048576 elements of a kind. -/
namespace Go.Proofs.YtehahodomfbpjaaGreatDoor
set_option linter.unusedVariables false
set_option maxRecDepth 100000
open Go.RowKit

end Go.Proofs.YtehahodomfbpjaaGreatDoor
