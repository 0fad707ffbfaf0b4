/-
  Texts of the proof, put together in their order: Sgf, Sgd, Sge, Mkg.
  Conditions: those of each.
-/
import Derived.Test.YtehahodomfbpjaaDoorMc6
import Derived.StillTailTactics
/- Contract of the program's segOfText. Conditions: texts of at most 65536 bytes; the package's errors are known. -/
namespace Go.Proofs.YtehahodomfbpjaaDoor
set_option linter.unusedVariables false
set_option maxRecDepth 100000
open Go.RowKit

theorem news3 (w : World) (t : TypeId) (x y z : Value) : ∀ j u, [x, y, z][j]? = some u → (w.alloc (.cells #[x, y, z] t)).cell? ((Addr.mk w.heap.size 0 none).add j) = some u := fun j u hj => by
  have ho := Own.new3 w t x y z
  rcases j with _ | _ | _ | j
  · injection hj with hj; subst hj; exact (ho.cell (i := 0) (by omega))
  · injection hj with hj; subst hj; exact (ho.cell (i := 1) (by omega))
  · injection hj with hj; subst hj; exact (ho.cell (i := 2) (by omega))
  · simp at hj
theorem rdN_len {t : ByteArray} {ns : List Nat} (ht : t.size ≤ 65536) (h : rdN t = some ns) : ns.length ≤ 65536 := by
  unfold rdN at h
  cases ho : opensB t with
  | false => rw [ho] at h; cases h
  | true =>
    rw [ho] at h
    unfold numsO at h
    by_cases hc : (bodyOf t).data.toList.length % 6 = 0 ∧ digL (bodyOf t).data.toList = true
    · simp only [if_true, if_pos hc] at h
      injection h with h
      subst h
      rw [numsOf_len, ← ba_size]
      have := bodyOf_size t
      omega
    · simp only [if_true, if_neg hc] at h; cases h
theorem Row.at0 {w : World} {B m : Nat} {A : Option Addr} {f : Nat → Value} (h : Row w B A m f) (hm : 0 < m) : ∃ b off, A = some ⟨b, off, none⟩ ∧ b < B ∧ ∀ i, i < m → w.cell? ⟨b, off + i, none⟩ = some (f i) := h hm
/-- The loop's relation: k changes are there, the next number is p. -/
def SegLoop (w1 : World) (gG : Nat) (n0 n1 n2 : Nat) (ns : List Nat) (i : Value) (wr : World) : Prop :=
  ∃ (k p : Nat) (v : Value), p ≤ ns.length ∧ Hid (p = 3 + 3 * k) ∧ i = .int .i64 p ∧ Box wr gG 38 #[.int .i64 n0, .int .i64 n1, .int .i64 n2, v] ∧ wr.ownsRow w1.heap.size 85 3 v k (chsV (chOf ns k)) ∧ Nx w1 wr
theorem Sl.put4 {u : World} {lo g : Nat} {A : Option Addr} {t : TypeId} {m : Nat} {f : Nat → Value} (h : Sl u lo A t m f) (hg : g < lo) (v0 v1 v2 v3 : Value) : Sl (put4 u g v0 v1 v2 v3) lo A t m f :=
  (((h.far (p := ⟨g, 0, none⟩) hg v0).far (p := ⟨g, 1, none⟩) hg v1).far (p := ⟨g, 2, none⟩) hg v2).far (p := ⟨g, 3, none⟩) hg v3
/-- What reading a segment leaves: no segment, and bad; or one in new memory, and good. -/
def RetST (w : World) (o : Option G4) (bad good : Value) (e : Ending) (w' : World) : Prop :=
  Nx w w' ∧ (o = none → e = .returned (.tuple #[.agg #[.int .i64 0, .int .i64 0, .int .i64 0, .slice none 0 0], bad])) ∧
  ∀ q, o = some q → ∃ A c, e = .returned (.tuple #[.agg #[.int .i64 q.1, .int .i64 q.2.1, .int .i64 q.2.2.1, .slice A q.2.2.2.length c], good]) ∧ Sl w' w.heap.size A 85 (q.2.2.2.length * 3) (chAt q.2.2.2)
theorem RetST.no {w w' : World} {o : Option G4} {bad good : Value} (h : o = none) (hn : Nx w w') : RetST w o bad good (.returned (.tuple #[.agg #[.int .i64 0, .int .i64 0, .int .i64 0, .slice none 0 0], bad])) w' :=
  ⟨hn, fun _ => rfl, fun q h2 => by rw [h] at h2; cases h2⟩
theorem RetST.yes {w w' : World} {o : Option G4} {bad good : Value} {ns : List Nat} {n0 n1 n2 k c : Nat} {A : Option Addr} (h : o = some (sgOf ns)) (hq : sgOf ns = (n0, n1, n2, chOf ns k)) (hs : Sl w' w.heap.size A 85 ((chOf ns k).length * 3) (chAt (chOf ns k))) (hn : Nx w w') :
    RetST w o bad good (.returned (.tuple #[.agg #[.int .i64 n0, .int .i64 n1, .int .i64 n2, .slice A (chOf ns k).length c], good])) w' :=
  ⟨hn, (fun h2 => by rw [h] at h2; cases h2), fun q h2 => by rw [h, hq] at h2; injection h2 with h2; subst h2; exact ⟨A, c, rfl, hs⟩⟩
theorem okLen_yes {ns : List Nat} (h1 : 3 ≤ ns.length) (h2 : ns.length % 3 = 0) : okLen ns = true := by unfold okLen; simp [h1, h2]
theorem okLen_no {ns : List Nat} (h : ¬ (3 ≤ ns.length ∧ ns.length % 3 = 0)) : okLen ns = false := by
  unfold okLen
  cases h1 : decide (3 ≤ ns.length) with
  | false => rfl
  | true =>
    have h1' : 3 ≤ ns.length := by simpa using h1
    rw [decide_eq_false (fun h2 => h ⟨h1', h2⟩)]; rfl
set_option maxRecDepth 100000 in
set_option maxHeartbeats 8000000 in
/-- From the loop on, up to its end. -/
theorem segOfText_c (t : ByteArray) (w : World) (a0 a1 : Addr) (ht : t.size ≤ 65536) (hE : Er w a0 a1) : Calls Tryd.prog 49 #[.string t] w (RetST w (rdG t) (.iface 152 (.pointer (some a0))) .nilIface) := by
  obtain ⟨i0, hi0, hz0, hz1, hz2⟩ := info_parts info_chg
  have e0 := hE.1
  have hg0 : 0 < w.heap.size := World.block_lt_of_cell? w _ e0
  have b0 := Box.new w 38 #[.int .i64 0, .int .i64 0, .int .i64 0, .slice none 0 0]
  have hx0 := (Nx.refl w).alloc (.cells #[.int .i64 0, .int .i64 0, .int .i64 0, .slice none 0 0] 38)
  go_enter Tryd.func49, Tryd.ntmps49
  go_wp2_with fail
  generalize w.alloc (.cells #[.int .i64 0, .int .i64 0, .int .i64 0, .slice none 0 0] 38) = W at *
  refine (sealedNumbers_c t _ a0 a1 ht (hE.nx hx0)).mono ?_
  rintro e w1 ⟨hnx1, h1, h2⟩
  have b1 := b0.nx hnx1
  have hxw := hx0.trans hnx1
  clear b0 hx0 hnx1
  cases hr : rdN t with
  | none =>
    obtain rfl := h1 hr
    have HF := Lib.hid (rdG_none hr)
    clear h1 h2 hr
    obtain ⟨c0, c1, c2, c3⟩ := b1.d4
    have f0 := b1.frozen 0
    have f1 := b1.frozen 1
    have f2 := b1.frozen 2
    have f3 := b1.frozen 3
    go_wp2
    have q := (put4_box b1 (.int .i64 0) (.int .i64 0) (.int .i64 0) (.slice none 0 0))
    have hnf := (put4_nx hxw (Nat.le_refl w.heap.size) (.int .i64 0) (.int .i64 0) (.int .i64 0) (.slice none 0 0))
    change bodyPost _ _ _ _ _ (put4 w1 w.heap.size (.int .i64 0) (.int .i64 0) (.int .i64 0) (.slice none 0 0))
    change Box (put4 w1 w.heap.size (.int .i64 0) (.int .i64 0) (.int .i64 0) (.slice none 0 0)) _ _ _ at q
    generalize put4 w1 w.heap.size (.int .i64 0) (.int .i64 0) (.int .i64 0) (.slice none 0 0) = Wf at *
    obtain ⟨g0, g1, g2, g3⟩ := q.d4
    exact bodyPost_ret (v := .tuple #[.agg #[.int .i64 0, .int .i64 0, .int .i64 0, .slice none 0 0], .iface 152 (.pointer (some a0))]) (by simp [results, Tryd.results49, go_sem, g0, g1, g2, g3]) rfl (RetST.no HF.out hnf)
  | some ns =>
    obtain ⟨A, c, rfl, hrow, _⟩ := h2 ns hr
    have HN := Lib.hid hr
    clear h1 h2 hr
    have HNL := Lib.hid (rdN_len ht HN.out)
    by_cases hl : 3 ≤ ns.length ∧ ns.length % 3 = 0
    case neg =>
      have HF := Lib.hid (rdG_len HN.out (okLen_no hl))
      by_cases hz : ns.length = 0
      · have he0 : ((ns.length : Int) == 0) = true := beq_iff_eq.2 (by omega)
        clear hz hl
        obtain ⟨c0, c1, c2, c3⟩ := b1.d4
        have f0 := b1.frozen 0
        have f1 := b1.frozen 1
        have f2 := b1.frozen 2
        have f3 := b1.frozen 3
        have hlt := b1.lt
        go_wp2_with fail
        refine wp_region_lex [false, false, true, false] (fun w' => w'.cell? ⟨0, 0, none⟩ = some (.iface 152 (.pointer (some a0)))) (by kernel_rfl) (by kernel_rfl) rfl (by kernel_rfl) (fun _ _ d _ _ h => by cases d <;> exact h) (by exact ((hxw.drew).cell (p := ⟨0, 0, none⟩) hg0).trans e0) ?_
        repeat (first | (refine HL.take (v := ?_) (by rfl) ?_ ?_; rotate_left; (· (intro w hSw; (try dsimp only at hSw); go_simp; try with_reducible rfl)); (try simp only [Act.put, List.setIfInBounds_toArray, List.set_cons_zero, List.set_cons_succ])) | (refine HL.skip (by rfl) ?_; (try simp only [Act.put, List.setIfInBounds_toArray, List.set_cons_zero, List.set_cons_succ])))
        refine HL.call (by rfl) (fun K hK => ?_)
        go_simp
        refine hK.out _ _ (by exact (put4_nx hxw.drew (Nat.le_refl w.heap.size) (.int .i64 0) (.int .i64 0) (.int .i64 0) (.slice none 0 0)).cell (p := ⟨0, 0, none⟩) hg0 |>.trans e0) ?_
        clear hK K
        try simp only [Act.put, List.setIfInBounds_toArray, List.set_cons_zero, List.set_cons_succ]
        repeat (first | (refine HL.take (v := ?_) (by rfl) ?_ ?_; rotate_left; (· (intro w hSw; (try dsimp only at hSw); go_simp; try with_reducible rfl)); (try simp only [Act.put, List.setIfInBounds_toArray, List.set_cons_zero, List.set_cons_succ])) | (refine HL.skip (by rfl) ?_; (try simp only [Act.put, List.setIfInBounds_toArray, List.set_cons_zero, List.set_cons_succ])))
        refine HL.done ?_
        clear c0 c1 c2 c3 f0 f1 f2 f3
        go_wp2
        have q := (put4_box b1 (.int .i64 0) (.int .i64 0) (.int .i64 0) (.slice none 0 0))
        have hnf := (put4_nx hxw (Nat.le_refl w.heap.size) (.int .i64 0) (.int .i64 0) (.int .i64 0) (.slice none 0 0)).drew
        change bodyPost _ _ _ _ _ (World.drew (put4 w1 w.heap.size (.int .i64 0) (.int .i64 0) (.int .i64 0) (.slice none 0 0)))
        change Box (World.drew (put4 w1 w.heap.size (.int .i64 0) (.int .i64 0) (.int .i64 0) (.slice none 0 0))) _ _ _ at q
        generalize World.drew (put4 w1 w.heap.size (.int .i64 0) (.int .i64 0) (.int .i64 0) (.slice none 0 0)) = Wf at *
        obtain ⟨g0, g1, g2, g3⟩ := q.d4
        exact bodyPost_ret (v := .tuple #[.agg #[.int .i64 0, .int .i64 0, .int .i64 0, .slice none 0 0], .iface 152 (.pointer (some a0))]) (by simp [results, Tryd.results49, go_sem, g0, g1, g2, g3]) rfl (RetST.no HF.out hnf)
      have he0 : ((ns.length : Int) == 0) = false := beq_eq_false_iff_ne.2 (by omega)
      have he1 : ((ns.length : Int) % 3 != 0) = true := by rw [bne_iff_ne]; omega
      clear hz hl
      obtain ⟨c0, c1, c2, c3⟩ := b1.d4
      have f0 := b1.frozen 0
      have f1 := b1.frozen 1
      have f2 := b1.frozen 2
      have f3 := b1.frozen 3
      have hlt := b1.lt
      go_wp2_with fail
      refine wp_region_lex [false, false, true, false] (fun w' => w'.cell? ⟨0, 0, none⟩ = some (.iface 152 (.pointer (some a0)))) (by kernel_rfl) (by kernel_rfl) rfl (by kernel_rfl) (fun _ _ d _ _ h => by cases d <;> exact h) (by exact ((hxw.drew).cell (p := ⟨0, 0, none⟩) hg0).trans e0) ?_
      repeat (first | (refine HL.take (v := ?_) (by rfl) ?_ ?_; rotate_left; (· (intro w hSw; (try dsimp only at hSw); go_simp; try with_reducible rfl)); (try simp only [Act.put, List.setIfInBounds_toArray, List.set_cons_zero, List.set_cons_succ])) | (refine HL.skip (by rfl) ?_; (try simp only [Act.put, List.setIfInBounds_toArray, List.set_cons_zero, List.set_cons_succ])))
      refine HL.call (by rfl) (fun K hK => ?_)
      go_simp
      refine hK.out _ _ (by exact (put4_nx hxw.drew (Nat.le_refl w.heap.size) (.int .i64 0) (.int .i64 0) (.int .i64 0) (.slice none 0 0)).cell (p := ⟨0, 0, none⟩) hg0 |>.trans e0) ?_
      clear hK K
      try simp only [Act.put, List.setIfInBounds_toArray, List.set_cons_zero, List.set_cons_succ]
      repeat (first | (refine HL.take (v := ?_) (by rfl) ?_ ?_; rotate_left; (· (intro w hSw; (try dsimp only at hSw); go_simp; try with_reducible rfl)); (try simp only [Act.put, List.setIfInBounds_toArray, List.set_cons_zero, List.set_cons_succ])) | (refine HL.skip (by rfl) ?_; (try simp only [Act.put, List.setIfInBounds_toArray, List.set_cons_zero, List.set_cons_succ])))
      refine HL.done ?_
      clear c0 c1 c2 c3 f0 f1 f2 f3
      go_wp2
      have q := (put4_box b1 (.int .i64 0) (.int .i64 0) (.int .i64 0) (.slice none 0 0))
      have hnf := (put4_nx hxw (Nat.le_refl w.heap.size) (.int .i64 0) (.int .i64 0) (.int .i64 0) (.slice none 0 0)).drew
      change bodyPost _ _ _ _ _ (World.drew (put4 w1 w.heap.size (.int .i64 0) (.int .i64 0) (.int .i64 0) (.slice none 0 0)))
      change Box (World.drew (put4 w1 w.heap.size (.int .i64 0) (.int .i64 0) (.int .i64 0) (.slice none 0 0))) _ _ _ at q
      generalize World.drew (put4 w1 w.heap.size (.int .i64 0) (.int .i64 0) (.int .i64 0) (.slice none 0 0)) = Wf at *
      obtain ⟨g0, g1, g2, g3⟩ := q.d4
      exact bodyPost_ret (v := .tuple #[.agg #[.int .i64 0, .int .i64 0, .int .i64 0, .slice none 0 0], .iface 152 (.pointer (some a0))]) (by simp [results, Tryd.results49, go_sem, g0, g1, g2, g3]) rfl (RetST.no HF.out hnf)
    case pos =>
      obtain ⟨hl3, hlm⟩ := hl
      have he0 : ((ns.length : Int) == 0) = false := beq_eq_false_iff_ne.2 (by omega)
      have he1 : ((ns.length : Int) % 3 != 0) = false := by rw [bne_eq_false_iff_eq]; omega
      obtain ⟨N, hN⟩ : ∃ N, ns.length = 3 + 3 * N := ⟨ns.length / 3 - 1, by omega⟩
      have HNN := Lib.hid hN
      have HOL := Lib.hid (okLen_yes hl3 hlm)
      clear hN hlm
      obtain ⟨b, off, rfl, hb, hcl⟩ := hrow.at0 (by omega)
      obtain ⟨n0, Hn0⟩ : ∃ n, Hid (ns.getD 0 0 = n) := ⟨_, rfl⟩
      obtain ⟨n1, Hn1⟩ : ∃ n, Hid (ns.getD 1 0 = n) := ⟨_, rfl⟩
      obtain ⟨n2, Hn2⟩ : ∃ n, Hid (ns.getD 2 0 = n) := ⟨_, rfl⟩
      have k0 : w1.cell? ⟨b, off, none⟩ = some (.int .i64 n0) := by have := hcl 0 (by omega); unfold intAt at this; rw [Hn0.out] at this; exact this
      have k1 : w1.cell? ⟨b, off + 1, none⟩ = some (.int .i64 n1) := by have := hcl 1 (by omega); unfold intAt at this; rw [Hn1.out] at this; exact this
      have k2 : w1.cell? ⟨b, off + 2, none⟩ = some (.int .i64 n2) := by have := hcl 2 (by omega); unfold intAt at this; rw [Hn2.out] at this; exact this
      have HCL := Lib.hid hcl
      have hl0 : (0 : Int) < (ns.length : Int) := by omega
      have hl1 : (1 : Int) < (ns.length : Int) := by omega
      have hl2 : (2 : Int) < (ns.length : Int) := by omega
      have hm0 : 0 < ns.length := by omega
      have hm1 : 1 < ns.length := by omega
      have hm2 : 2 < ns.length := by omega
      clear hcl hrow
      go_wp2_with fail
      refine wp_region_lex [false, false, false, false, false, false, false, false, false, false, true, true] (fun w' => w'.cell? ⟨b, off, none⟩ = some (.int .i64 n0) ∧ w'.cell? ⟨b, off + 1, none⟩ = some (.int .i64 n1) ∧ w'.cell? ⟨b, off + 2, none⟩ = some (.int .i64 n2)) (by kernel_rfl) (by kernel_rfl) rfl (by kernel_rfl) (fun _ _ d _ _ h => by cases d <;> exact h) (by exact ⟨k0, k1, k2⟩) ?_
      repeat (first | (refine HL.take (v := ?_) (by rfl) ?_ ?_; rotate_left; (· (intro w hSw; (try dsimp only at hSw); go_simp; try with_reducible rfl)); (try simp only [Act.put, List.setIfInBounds_toArray, List.set_cons_zero, List.set_cons_succ])) | (refine HL.skip (by rfl) ?_; (try simp only [Act.put, List.setIfInBounds_toArray, List.set_cons_zero, List.set_cons_succ])))
      refine HL.call (by rfl) (fun K hK => ?_)
      go_simp
      refine hK.out _ _ (by exact ⟨(((Nx.refl w1).alloc _).cell (p := ⟨b, off, none⟩) hb).trans k0, (((Nx.refl w1).alloc _).cell (p := ⟨b, off + 1, none⟩) hb).trans k1, (((Nx.refl w1).alloc _).cell (p := ⟨b, off + 2, none⟩) hb).trans k2⟩) ?_
      clear hK K
      try simp only [Act.put, List.setIfInBounds_toArray, List.set_cons_zero, List.set_cons_succ]
      refine HL.call (by rfl) (fun K hK => ?_)
      go_simp
      refine hK.out _ _ (by exact ⟨(((Nx.refl w1).alloc _).cell (p := ⟨b, off, none⟩) hb).trans k0, (((Nx.refl w1).alloc _).cell (p := ⟨b, off + 1, none⟩) hb).trans k1, (((Nx.refl w1).alloc _).cell (p := ⟨b, off + 2, none⟩) hb).trans k2⟩) ?_
      clear hK K
      try simp only [Act.put, List.setIfInBounds_toArray, List.set_cons_zero, List.set_cons_succ]
      refine HL.done ?_
      clear k0 k1 k2 hl0 hl1 hl2 hm0 hm1 hm2
      have bg0 := Box.new w1 38 #[.int .i64 n0, .int .i64 n1, .int .i64 n2, .slice none 0 0]
      have hx3 := ((Nx.refl w1).alloc (.cells #[.int .i64 n0, .int .i64 n1, .int .i64 n2, .slice none 0 0] 38)).drew
      change Exit.then _ _ _ _ (World.drew (w1.alloc (.cells #[.int .i64 n0, .int .i64 n1, .int .i64 n2, .slice none 0 0] 38)))
      change Box (World.drew (w1.alloc (.cells #[.int .i64 n0, .int .i64 n1, .int .i64 n2, .slice none 0 0] 38))) _ _ _ at bg0
      generalize World.drew (w1.alloc (.cells #[.int .i64 n0, .int .i64 n1, .int .i64 n2, .slice none 0 0] 38)) = w3 at *
      go_wp2
      go_loopw [7] (fun i wr => SegLoop w1 w1.heap.size n0 n1 n2 ns i wr) (fun i _ => ns.length - (intOf i).toNat)
      case atStart => exact ⟨0, 3, .slice none 0 0, hl3, Lib.hid rfl, rfl, bg0, ⟨rfl, .inl ⟨rfl, rfl⟩⟩, hx3⟩
      case round =>
        obtain ⟨k, p, v, hp, HPp, rfl, bg, hw, hnx⟩ := hrel
        clear bg0 hx3
        by_cases hlt : p < ns.length
        · have hp3 : p + 3 ≤ ns.length := by have := HPp.out; have := HNN.out; omega
          have hn9 : ns.length ≤ 65536 := HNL.out
          obtain ⟨q0, Hq0⟩ : ∃ n, Hid (ns.getD p 0 = n) := ⟨_, rfl⟩
          obtain ⟨q1, Hq1⟩ : ∃ n, Hid (ns.getD (p + 1) 0 = n) := ⟨_, rfl⟩
          obtain ⟨q2, Hq2⟩ : ∃ n, Hid (ns.getD (p + 2) 0 = n) := ⟨_, rfl⟩
          have m0 : w1.cell? ⟨b, off + p, none⟩ = some (.int .i64 q0) := by have := HCL.out p (by omega); unfold intAt at this; rw [Hq0.out] at this; exact this
          have m1 : w1.cell? ⟨b, off + (p + 1), none⟩ = some (.int .i64 q1) := by have := HCL.out (p + 1) (by omega); unfold intAt at this; rw [Hq1.out] at this; exact this
          have m2 : w1.cell? ⟨b, off + (p + 2), none⟩ = some (.int .i64 q2) := by have := HCL.out (p + 2) (by omega); unfold intAt at this; rw [Hq2.out] at this; exact this
          have HQ := Lib.hid (show chV (chN3 ns k) = [.int .i64 q0, .int .i64 q1, .int .i64 q2] by
            unfold chV chN3; rw [← HPp.out, Hq0.out, Hq1.out, Hq2.out])
          have HO : Hid (∀ u ∈ [Value.int .i64 (q0 : Int), .int .i64 q1, .int .i64 q2], u.oneCell' = true) := Lib.hid (fun u hu => by simp only [List.mem_cons, List.not_mem_nil, or_false] at hu; rcases hu with rfl | rfl | rfl <;> rfl)
          have hbw := hb
          have hgG : w1.heap.size ≤ w1.heap.size := Nat.le_refl _
          have hk9 : k ≤ 100000 := by have := HPp.out; have := HNL.out; omega
          obtain ⟨_, _, _, c3⟩ := bg.d4
          have hw1a : (p : Int) + 1 < (ns.length : Int) := by omega
          have hw1b : (p : Int) + 2 < (ns.length : Int) := by omega
          have hw1c : (p : Int) < (ns.length : Int) := by omega
          have hw2a : ((p : Int) + 1).toNat = p + 1 := by omega
          have hw2b : ((p : Int) + 2).toNat = p + 2 := by omega
          have hw3a : (0 : Int) ≤ (p : Int) + 1 := by omega
          have hw3b : (0 : Int) ≤ (p : Int) + 2 := by omega
          have hw4a : IntKind.i64.wrap ((p : Int) + 1) = (p : Int) + 1 := IntWalk.i64_in _ (by have := HNL.out; omega)
          have hw4b : IntKind.i64.wrap ((p : Int) + 2) = (p : Int) + 2 := IntWalk.i64_in _ (by have := HNL.out; omega)
          go_wp2_with fail
          refine wp_region_plan (.t 0 (.t 2 (.t 3 (.t 4 (.t 5 (.t 6 (.t 7 (.t 8 (.t 9 (.t 10 (.t 11 (.t 12 (.t 13 (.t 14 (.t 15 (.t 16 (.b 1 (.c 17 (.c 18 (.t 19 (.c 20 .e)))) 17 (.c 1 (.c 18 (.t 19 (.c 20 .e))))))))))))))))))))) (fun w' => w'.cell? ⟨b, off + p, none⟩ = some (.int .i64 q0) ∧ w'.cell? ⟨b, off + (p + 1), none⟩ = some (.int .i64 q1) ∧ w'.cell? ⟨b, off + (p + 2), none⟩ = some (.int .i64 q2)) (by kernel_rfl) (by kernel_rfl) rfl (by kernel_rfl) (fun _ _ d _ _ h => by cases d <;> exact h) (by exact ⟨(hnx.drew.cell (p := ⟨b, off + p, none⟩) hbw).trans m0, (hnx.drew.cell (p := ⟨b, off + (p + 1), none⟩) hbw).trans m1, (hnx.drew.cell (p := ⟨b, off + (p + 2), none⟩) hbw).trans m2⟩) ?_
          simp only [psOf, List.getD_cons_zero, List.getD_cons_succ]
          repeat (first | (refine HP.take (v := ?_) (by rfl) ?_ ?_; rotate_left; (· (intro w hSw; (try dsimp only at hSw); go_simp; try with_reducible rfl)); (try simp only [Act.put, List.setIfInBounds_toArray, List.set_cons_zero, List.set_cons_succ])) | (refine HP.skip (by rfl) ?_; (try simp only [Act.put, List.setIfInBounds_toArray, List.set_cons_zero, List.set_cons_succ])))
          refine HP.both ?_ ?_
          · have hx1 := hnx.drew.alloc (.cells #[.int .i64 q0, .int .i64 q1, .int .i64 q2] 85)
            have hw1 := (owns_nx3 hw (Nx.refl wr).drew).alloc (.cells #[.int .i64 q0, .int .i64 q1, .int .i64 q2] 85)
            have bz := (bg.nx (Nx.refl wr).drew).alloc (.cells #[.int .i64 q0, .int .i64 q1, .int .i64 q2] 85)
            have HNW := Lib.hid (news3 wr.drew 85 (.int .i64 q0) (.int .i64 q1) (.int .i64 q2))
            have hlt := bg.lt
            refine CallStep.mk (by rfl) (fun K hK => ?_)
            go_simp
            refine hK.out _ _ (by exact ⟨(hnx.drew.cell (p := ⟨b, off + p, none⟩) hbw).trans m0, (hnx.drew.cell (p := ⟨b, off + (p + 1), none⟩) hbw).trans m1, (hnx.drew.cell (p := ⟨b, off + (p + 2), none⟩) hbw).trans m2⟩) ?_
            clear hK K
            try simp only [Act.put, List.setIfInBounds_toArray, List.set_cons_zero, List.set_cons_succ]
            refine HP.call ?_
            refine CallStep.mk (by rfl) (fun K hK => ?_)
            go_simp
            refine hK.out _ _ (by exact ⟨(hx1.cell (p := ⟨b, off + p, none⟩) hbw).trans m0, (hx1.cell (p := ⟨b, off + (p + 1), none⟩) hbw).trans m1, (hx1.cell (p := ⟨b, off + (p + 2), none⟩) hbw).trans m2⟩) ?_
            clear hK K
            try simp only [Act.put, List.setIfInBounds_toArray, List.set_cons_zero, List.set_cons_succ]
            change HP _ _ _ _ _ _ (wr.drew.alloc (.cells #[.int .i64 q0, .int .i64 q1, .int .i64 q2] 85))
            generalize wr.drew.alloc (.cells #[.int .i64 q0, .int .i64 q1, .int .i64 q2] 85) = wz at *
            refine HP.call ?_
            refine CallStep.mk (by rfl) (fun K hK => ?_)
            refine wp_append_own wz _ _ 36 rfl w1.heap.size 85 i0 _ 3 24 Tryd.underlying36 hi0 hz0 hz1 hz2 rfl (by omega) v k _ rfl hw1 ⟨wr.heap.size, 0, none⟩ 1 1 [.int .i64 q0, .int .i64 q1, .int .i64 q2] rfl rfl HNW.out HO.out (by unfold maxLen; omega) (by omega) hx1.size ?_
            intro v2 w2 hw2 hg2 _
            obtain ⟨g2, cp2, rfl, _, _⟩ := hw2.form (by omega)
            have hx2 : Nx w1 w2 := Below.grown hx1 hg2 hx1.size (fun k hk => (hw1.lt k hk).1)
            have bg2 : Box w2 w1.heap.size 38 #[.int .i64 n0, .int .i64 n1, .int .i64 n2, v] := bz.grown hg2 (owns_ne hw1 bz)
            refine hK.out _ _ (by exact ⟨(hx2.cell (p := ⟨b, off + p, none⟩) hbw).trans m0, (hx2.cell (p := ⟨b, off + (p + 1), none⟩) hbw).trans m1, (hx2.cell (p := ⟨b, off + (p + 2), none⟩) hbw).trans m2⟩) ?_
            clear hK K
            try simp only [Act.put, List.setIfInBounds_toArray, List.set_cons_zero, List.set_cons_succ]
            repeat (first | (refine HP.take (v := ?_) (by rfl) ?_ ?_; rotate_left; (· (intro w hSw; (try dsimp only at hSw); go_simp; try with_reducible rfl)); (try simp only [Act.put, List.setIfInBounds_toArray, List.set_cons_zero, List.set_cons_succ])) | (refine HP.skip (by rfl) ?_; (try simp only [Act.put, List.setIfInBounds_toArray, List.set_cons_zero, List.set_cons_succ])))
            obtain ⟨_, _, _, d3⟩ := bg2.d4
            have f3 := bg2.frozen 3
            refine HP.call ?_
            refine CallStep.mk (by rfl) (fun K hK => ?_)
            go_simp
            have hx3 := hx2.setCell (p := ⟨w1.heap.size, 3, none⟩) hgG (.slice (some ⟨g2, 0, none⟩) (k + 1) cp2)
            refine hK.out _ _ (by exact ⟨(hx3.cell (p := ⟨b, off + p, none⟩) hbw).trans m0, (hx3.cell (p := ⟨b, off + (p + 1), none⟩) hbw).trans m1, (hx3.cell (p := ⟨b, off + (p + 2), none⟩) hbw).trans m2⟩) ?_
            clear hK K
            try simp only [Act.put, List.setIfInBounds_toArray, List.set_cons_zero, List.set_cons_succ]
            refine HP.done ?_
            clear hw1a hw1b hw1c hw2a hw2b hw3a hw3b hw4a hw4b
            have bg3 := bg2.set 3 (.slice (some ⟨g2, 0, none⟩) (k + 1) cp2)
            have hw3 := owns_far (u := (.slice (some ⟨g2, 0, none⟩) (k + 1) cp2)) (i := 3) hw2 bg2
            clear d3 f3 c3
            go_wp2
            go_roundw
            case rel =>
              refine ⟨k + 1, p + 3, _, by omega, Lib.hid (by have := HPp.out; omega), by go_num, bg3, ?_, hx3⟩
              rw [chsV_succ, HQ.out]; exact hw3
            case measure => simp [intOf]; omega
          · have hx1 := hnx.drew.alloc (.cells #[.int .i64 q0, .int .i64 q1, .int .i64 q2] 85)
            have hw1 := (owns_nx3 hw (Nx.refl wr).drew).alloc (.cells #[.int .i64 q0, .int .i64 q1, .int .i64 q2] 85)
            have bz := (bg.nx (Nx.refl wr).drew).alloc (.cells #[.int .i64 q0, .int .i64 q1, .int .i64 q2] 85)
            have HNW := Lib.hid (news3 wr.drew 85 (.int .i64 q0) (.int .i64 q1) (.int .i64 q2))
            have hlt := bg.lt
            refine CallStep.mk (by rfl) (fun K hK => ?_)
            go_simp
            refine hK.out _ _ (by exact ⟨(hx1.cell (p := ⟨b, off + p, none⟩) hbw).trans m0, (hx1.cell (p := ⟨b, off + (p + 1), none⟩) hbw).trans m1, (hx1.cell (p := ⟨b, off + (p + 2), none⟩) hbw).trans m2⟩) ?_
            clear hK K
            try simp only [Act.put, List.setIfInBounds_toArray, List.set_cons_zero, List.set_cons_succ]
            refine HP.call ?_
            refine CallStep.mk (by rfl) (fun K hK => ?_)
            go_simp
            refine hK.out _ _ (by exact ⟨(hx1.cell (p := ⟨b, off + p, none⟩) hbw).trans m0, (hx1.cell (p := ⟨b, off + (p + 1), none⟩) hbw).trans m1, (hx1.cell (p := ⟨b, off + (p + 2), none⟩) hbw).trans m2⟩) ?_
            clear hK K
            try simp only [Act.put, List.setIfInBounds_toArray, List.set_cons_zero, List.set_cons_succ]
            change HP _ _ _ _ _ _ (wr.drew.alloc (.cells #[.int .i64 q0, .int .i64 q1, .int .i64 q2] 85))
            generalize wr.drew.alloc (.cells #[.int .i64 q0, .int .i64 q1, .int .i64 q2] 85) = wz at *
            refine HP.call ?_
            refine CallStep.mk (by rfl) (fun K hK => ?_)
            refine wp_append_own wz _ _ 36 rfl w1.heap.size 85 i0 _ 3 24 Tryd.underlying36 hi0 hz0 hz1 hz2 rfl (by omega) v k _ rfl hw1 ⟨wr.heap.size, 0, none⟩ 1 1 [.int .i64 q0, .int .i64 q1, .int .i64 q2] rfl rfl HNW.out HO.out (by unfold maxLen; omega) (by omega) hx1.size ?_
            intro v2 w2 hw2 hg2 _
            obtain ⟨g2, cp2, rfl, _, _⟩ := hw2.form (by omega)
            have hx2 : Nx w1 w2 := Below.grown hx1 hg2 hx1.size (fun k hk => (hw1.lt k hk).1)
            have bg2 : Box w2 w1.heap.size 38 #[.int .i64 n0, .int .i64 n1, .int .i64 n2, v] := bz.grown hg2 (owns_ne hw1 bz)
            refine hK.out _ _ (by exact ⟨(hx2.cell (p := ⟨b, off + p, none⟩) hbw).trans m0, (hx2.cell (p := ⟨b, off + (p + 1), none⟩) hbw).trans m1, (hx2.cell (p := ⟨b, off + (p + 2), none⟩) hbw).trans m2⟩) ?_
            clear hK K
            try simp only [Act.put, List.setIfInBounds_toArray, List.set_cons_zero, List.set_cons_succ]
            repeat (first | (refine HP.take (v := ?_) (by rfl) ?_ ?_; rotate_left; (· (intro w hSw; (try dsimp only at hSw); go_simp; try with_reducible rfl)); (try simp only [Act.put, List.setIfInBounds_toArray, List.set_cons_zero, List.set_cons_succ])) | (refine HP.skip (by rfl) ?_; (try simp only [Act.put, List.setIfInBounds_toArray, List.set_cons_zero, List.set_cons_succ])))
            obtain ⟨_, _, _, d3⟩ := bg2.d4
            have f3 := bg2.frozen 3
            refine HP.call ?_
            refine CallStep.mk (by rfl) (fun K hK => ?_)
            go_simp
            have hx3 := hx2.setCell (p := ⟨w1.heap.size, 3, none⟩) hgG (.slice (some ⟨g2, 0, none⟩) (k + 1) cp2)
            refine hK.out _ _ (by exact ⟨(hx3.cell (p := ⟨b, off + p, none⟩) hbw).trans m0, (hx3.cell (p := ⟨b, off + (p + 1), none⟩) hbw).trans m1, (hx3.cell (p := ⟨b, off + (p + 2), none⟩) hbw).trans m2⟩) ?_
            clear hK K
            try simp only [Act.put, List.setIfInBounds_toArray, List.set_cons_zero, List.set_cons_succ]
            refine HP.done ?_
            clear hw1a hw1b hw1c hw2a hw2b hw3a hw3b hw4a hw4b
            have bg3 := bg2.set 3 (.slice (some ⟨g2, 0, none⟩) (k + 1) cp2)
            have hw3 := owns_far (u := (.slice (some ⟨g2, 0, none⟩) (k + 1) cp2)) (i := 3) hw2 bg2
            clear d3 f3 c3
            go_wp2
            go_roundw
            case rel =>
              refine ⟨k + 1, p + 3, _, by omega, Lib.hid (by have := HPp.out; omega), by go_num, bg3, ?_, hx3⟩
              rw [chsV_succ, HQ.out]; exact hw3
            case measure => simp [intOf]; omega
        · obtain rfl : p = ns.length := by omega
          have hkN : k = ns.length / 3 - 1 := by have := HPp.out; omega
          have hlen := chOf_len ns k
          have hw' : wr.ownsRow w1.heap.size 85 3 v (chOf ns k).length (chsV (chOf ns k)) := by rw [hlen]; exact hw
          obtain ⟨A2, cp9, rfl, hSl⟩ := owns_slC hw'
          have HQ4 := Lib.hid (show sgOf ns = (n0, n1, n2, chOf ns k) by unfold sgOf; rw [Hn0.out, Hn1.out, Hn2.out, ← hkN])
          have hcl9 : (chOf ns k).length ≤ 1048576 := by rw [hlen]; have := HNL.out; omega
          have bw := b1.nx hnx
          have hxr := hxw.trans hnx
          have hgl : w.heap.size < w1.heap.size := b1.lt
          clear hw hw' hlen hkN
          obtain ⟨x0, x1, x2, x3⟩ := bg.d4
          go_wp2_with fail
          refine (segRight_c n0 n1 n2 A2 cp9 _ (chOf ns k) _ hSl.row (Nat.le_refl _) hcl9).mono ?_
          rintro e w5 ⟨rfl, hnx5⟩
          have b5 := bw.nx hnx5
          have bg5 := bg.nx hnx5
          have hx5 := hxr.trans hnx5
          have hS5 := hSl.nx hnx5
          clear x0 x1 x2 x3
          obtain ⟨x0, x1, x2, x3⟩ := bg5.d4
          cases hf : segB n0 n1 n2 (chOf ns k) with
          | false =>
            have HF := Lib.hid (rdG_no HN.out (by unfold g4B; rw [HQ4.out]; exact hf))
            clear hf
            obtain ⟨c0, c1, c2, c3⟩ := b5.d4
            have f0 := b5.frozen 0
            have f1 := b5.frozen 1
            have f2 := b5.frozen 2
            have f3 := b5.frozen 3
            have hlt := b5.lt
            go_wp2_with fail
            refine wp_region_lex [false, false, true, false] (fun w' => w'.cell? ⟨0, 0, none⟩ = some (.iface 152 (.pointer (some a0)))) (by kernel_rfl) (by kernel_rfl) rfl (by kernel_rfl) (fun _ _ d _ _ h => by cases d <;> exact h) (by exact ((hx5.drew).cell (p := ⟨0, 0, none⟩) hg0).trans e0) ?_
            repeat (first | (refine HL.take (v := ?_) (by rfl) ?_ ?_; rotate_left; (· (intro w hSw; (try dsimp only at hSw); go_simp; try with_reducible rfl)); (try simp only [Act.put, List.setIfInBounds_toArray, List.set_cons_zero, List.set_cons_succ])) | (refine HL.skip (by rfl) ?_; (try simp only [Act.put, List.setIfInBounds_toArray, List.set_cons_zero, List.set_cons_succ])))
            refine HL.call (by rfl) (fun K hK => ?_)
            go_simp
            refine hK.out _ _ (by exact (put4_nx hx5.drew (Nat.le_refl w.heap.size) (.int .i64 0) (.int .i64 0) (.int .i64 0) (.slice none 0 0)).cell (p := ⟨0, 0, none⟩) hg0 |>.trans e0) ?_
            clear hK K
            try simp only [Act.put, List.setIfInBounds_toArray, List.set_cons_zero, List.set_cons_succ]
            repeat (first | (refine HL.take (v := ?_) (by rfl) ?_ ?_; rotate_left; (· (intro w hSw; (try dsimp only at hSw); go_simp; try with_reducible rfl)); (try simp only [Act.put, List.setIfInBounds_toArray, List.set_cons_zero, List.set_cons_succ])) | (refine HL.skip (by rfl) ?_; (try simp only [Act.put, List.setIfInBounds_toArray, List.set_cons_zero, List.set_cons_succ])))
            refine HL.done ?_
            clear c0 c1 c2 c3 f0 f1 f2 f3
            go_wp2
            have q := (put4_box b5 (.int .i64 0) (.int .i64 0) (.int .i64 0) (.slice none 0 0))
            have hnf := (put4_nx hx5 (Nat.le_refl w.heap.size) (.int .i64 0) (.int .i64 0) (.int .i64 0) (.slice none 0 0)).drew
            change bodyPost _ _ _ _ _ (World.drew (put4 w5 w.heap.size (.int .i64 0) (.int .i64 0) (.int .i64 0) (.slice none 0 0)))
            change Box (World.drew (put4 w5 w.heap.size (.int .i64 0) (.int .i64 0) (.int .i64 0) (.slice none 0 0))) _ _ _ at q
            generalize World.drew (put4 w5 w.heap.size (.int .i64 0) (.int .i64 0) (.int .i64 0) (.slice none 0 0)) = Wf at *
            obtain ⟨g0, g1, g2, g3⟩ := q.d4
            exact bodyPost_ret (v := .tuple #[.agg #[.int .i64 0, .int .i64 0, .int .i64 0, .slice none 0 0], .iface 152 (.pointer (some a0))]) (by simp [results, Tryd.results49, go_sem, g0, g1, g2, g3]) rfl (RetST.no HF.out hnf)
          | true =>
            have HF := Lib.hid (rdG_yes HN.out HOL.out (by unfold g4B; rw [HQ4.out]; exact hf))
            clear hf
            obtain ⟨c0, c1, c2, c3⟩ := b5.d4
            have f0 := b5.frozen 0
            have f1 := b5.frozen 1
            have f2 := b5.frozen 2
            have f3 := b5.frozen 3
            go_wp2
            have q := (put4_box b5 (.int .i64 n0) (.int .i64 n1) (.int .i64 n2) (.slice A2 (chOf ns k).length cp9))
            have hnf := (put4_nx hx5 (Nat.le_refl w.heap.size) (.int .i64 n0) (.int .i64 n1) (.int .i64 n2) (.slice A2 (chOf ns k).length cp9))
            have hsf := (hS5.put4 hgl (.int .i64 n0) (.int .i64 n1) (.int .i64 n2) (.slice A2 (chOf ns k).length cp9))
            change Sl (put4 w5 w.heap.size (.int .i64 n0) (.int .i64 n1) (.int .i64 n2) (.slice A2 (chOf ns k).length cp9)) _ _ _ _ _ at hsf
            change bodyPost _ _ _ _ _ (put4 w5 w.heap.size (.int .i64 n0) (.int .i64 n1) (.int .i64 n2) (.slice A2 (chOf ns k).length cp9))
            change Box (put4 w5 w.heap.size (.int .i64 n0) (.int .i64 n1) (.int .i64 n2) (.slice A2 (chOf ns k).length cp9)) _ _ _ at q
            generalize put4 w5 w.heap.size (.int .i64 n0) (.int .i64 n1) (.int .i64 n2) (.slice A2 (chOf ns k).length cp9) = Wf at *
            obtain ⟨g0, g1, g2, g3⟩ := q.d4
            exact bodyPost_ret (v := .tuple #[.agg #[.int .i64 n0, .int .i64 n1, .int .i64 n2, .slice A2 (chOf ns k).length cp9], .nilIface]) (by simp [results, Tryd.results49, go_sem, g0, g1, g2, g3]) rfl (RetST.yes HF.out HQ4.out (hsf.low (by omega)) hnf)
set_option maxRecDepth 100000 in
set_option maxHeartbeats 2000000 in
theorem segOfTextLong_c (t : ByteArray) (w : World) (a0 a1 : Addr) (ht : 65536 < t.size) (hE : Er w a0 a1) :
    Calls Tryd.prog 49 #[.string t] w fun e w' => e = .returned (.tuple #[.agg #[.int .i64 0, .int .i64 0, .int .i64 0, .slice none 0 0], .iface 152 (.pointer (some a1))]) ∧ Nx w w' := by
  have b0 := Box.new w 38 #[.int .i64 0, .int .i64 0, .int .i64 0, .slice none 0 0]
  have hx0 := (Nx.refl w).alloc (.cells #[.int .i64 0, .int .i64 0, .int .i64 0, .slice none 0 0] 38)
  go_enter Tryd.func49, Tryd.ntmps49
  go_wp2_with fail
  generalize w.alloc (.cells #[.int .i64 0, .int .i64 0, .int .i64 0, .slice none 0 0] 38) = W at *
  refine (sealedNumbersLong_c t _ a0 a1 ht (hE.nx hx0)).mono ?_
  rintro e w1 ⟨rfl, hnx1⟩
  have b1 := b0.nx hnx1
  have hxw := hx0.trans hnx1
  clear b0 hx0 hnx1
  obtain ⟨c0, c1, c2, c3⟩ := b1.d4
  have f0 := b1.frozen 0
  have f1 := b1.frozen 1
  have f2 := b1.frozen 2
  have f3 := b1.frozen 3
  go_wp2
  have q := (put4_box b1 (.int .i64 0) (.int .i64 0) (.int .i64 0) (.slice none 0 0))
  have hnf := (put4_nx hxw (Nat.le_refl w.heap.size) (.int .i64 0) (.int .i64 0) (.int .i64 0) (.slice none 0 0))
  change bodyPost _ _ _ _ _ (put4 w1 w.heap.size (.int .i64 0) (.int .i64 0) (.int .i64 0) (.slice none 0 0))
  change Box (put4 w1 w.heap.size (.int .i64 0) (.int .i64 0) (.int .i64 0) (.slice none 0 0)) _ _ _ at q
  generalize put4 w1 w.heap.size (.int .i64 0) (.int .i64 0) (.int .i64 0) (.slice none 0 0) = Wf at *
  obtain ⟨g0, g1, g2, g3⟩ := q.d4
  exact bodyPost_ret (v := .tuple #[.agg #[.int .i64 0, .int .i64 0, .int .i64 0, .slice none 0 0], .iface 152 (.pointer (some a1))]) (by simp [results, Tryd.results49, go_sem, g0, g1, g2, g3]) rfl ⟨rfl, hnf⟩

end Go.Proofs.YtehahodomfbpjaaDoor
/- Contract of the model's l02Read. Conditions: texts of at most 65536 bytes. -/
namespace Go.Proofs.YtehahodomfbpjaaDoor
set_option linter.unusedVariables false
set_option maxRecDepth 100000
open Go.RowKit

theorem owns_new03 (w : World) {B : Nat} (hB : B ≤ w.heap.size) : (w.alloc (.cells #[] 85)).ownsRow B 85 3 (.slice (some ⟨w.heap.size, 0, none⟩) 0 0) 0 [] :=
  ⟨rfl, .inr ⟨_, 0, #[], rfl, hB, heap_alloc_new w _, by omega, by unfold maxLen; omega, rfl, rfl⟩⟩
end Go.Proofs.YtehahodomfbpjaaDoor
/- Contracts of the laws' functions that compare segments: of alike ones they answer true. Conditions: the segments can be read, and have at most 1048576 changes. -/
namespace Go.Proofs.YtehahodomfbpjaaDoor
set_option linter.unusedVariables false
set_option maxRecDepth 100000
open Go.RowKit

end Go.Proofs.YtehahodomfbpjaaDoor
/- Contracts of the laws' functions that mark the memory of segments and look for the marks. Conditions: the changes lie in a block of the call's own; at most 1048576. -/
namespace Go.Proofs.YtehahodomfbpjaaDoor
set_option linter.unusedVariables false
set_option maxRecDepth 100000
open Go.RowKit

end Go.Proofs.YtehahodomfbpjaaDoor
