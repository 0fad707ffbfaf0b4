/-
  Contracts of SegOf, as the program and as the model have it.
  Conditions: the list can be read, and holds at most 1048576 elements.
-/
import Derived.Test.YtckekkhfjcaclaaFwl
import Derived.Test.YtckekkhfjcaclaaFws
namespace Go.Proofs.Ytckekkhfjcaclaa
set_option linter.unusedVariables false
open Go.RowKit

/-- A segment: from, to, time, changes. -/
abbrev Sg4 := Int × Int × Int × List Chg
def zSg : Sg4 := (0, 0, 0, [])
/-- A segment and a code that are answered. -/
def RetSC (w : World) (q : Sg4) (cd : Int) (e : Ending) (w' : World) : Prop :=
  ∃ (A : Option Addr) (c : Nat), e = .returned (.tuple #[.agg #[.int .i64 q.1, .int .i64 q.2.1, .int .i64 q.2.2.1, .slice A q.2.2.2.length c], .int .i64 cd]) ∧ Sl w' w.heap.size A 45 (q.2.2.2.length * 3) (chAt q.2.2.2) ∧ Nx w w'
/-- What a write makes of a content. -/
def ofW (xs : List Int) (p b v t : Int) : Sg4 := (p - 1, p, t, [(b, v, xs.getD b.toNat 0)])
def sgOf (xs : List Int) (p b v t : Int) : Sg4 := if contB xs && frameB p b v t then ofW xs p b v t else zSg
theorem chAt_one (b v o : Int) : ∀ i, i < 3 → (#[Value.int .i64 b, .int .i64 v, .int .i64 o] : Array Value)[i]! = chAt [(b, v, o)] i := fun i hi => by
  match i, hi with
  | 0, _ => rfl
  | 1, _ => rfl
  | 2, _ => rfl
theorem one_own {w : World} {g : Nat} {t : TypeId} {b v o : Int} (h : Box w g t #[.int .i64 b, .int .i64 v, .int .i64 o]) : Own w g t 3 (chAt [(b, v, o)]) := h.own.congr (chAt_one b v o)
theorem frameB_block {p b v t : Int} (h : frameB p b v t = true) : 0 ≤ b ∧ b ≤ 7 ∧ 1 ≤ p ∧ p ≤ 999999 ∧ 0 ≤ v ∧ v ≤ 999999 ∧ 0 ≤ t ∧ t ≤ 999999 := by
  unfold frameB at h
  simp only [Bool.and_eq_true] at h
  have h1 := inB_yes h.1.1.1
  have h2 := inB_yes h.1.1.2
  have h3 := inB_yes h.1.2
  have h4 := inB_yes h.2
  omega

set_option maxRecDepth 100000 in
set_option maxHeartbeats 4000000 in
theorem implSegOf_c (A2 : Option Addr) (c2 B : Nat) (xs : List Int) (p b v t : Int) (w : World) (h : Ins w B A2 xs) (hB : B ≤ w.heap.size) (hn : xs.length ≤ 1048576) :
    Calls Try.prog 21 #[.slice A2 xs.length c2, .agg #[.int .i64 p, .int .i64 b, .int .i64 v, .int .i64 t]] w (RetSC w (sgOf xs p b v t) (askC xs (frameB p b v t))) := by
  have bF0 := (Box.new w 37 #[.int .i64 p, .int .i64 b, .int .i64 v, .int .i64 t]).alloc (.cells #[.int .i64 0, .int .i64 0, .int .i64 0, .slice none 0 0] 31)
  have bR0 := Box.new (w.alloc (.cells #[.int .i64 p, .int .i64 b, .int .i64 v, .int .i64 t] 37)) 31 #[.int .i64 0, .int .i64 0, .int .i64 0, .slice none 0 0]
  have hx0 := ((Nx.refl w).alloc (.cells #[.int .i64 p, .int .i64 b, .int .i64 v, .int .i64 t] 37)).alloc (.cells #[.int .i64 0, .int .i64 0, .int .i64 0, .slice none 0 0] 31)
  simp only [World.size_alloc] at bR0
  obtain ⟨z, Hz⟩ : ∃ z, Hid (askC xs true = z) := ⟨_, rfl⟩
  by_cases hz : z = 0
  case neg =>
    have hd : (z != 0) = true := by simp [hz]
    have HR := Lib.hid (show askC xs (frameB p b v t) = z ∧ sgOf xs p b v t = zSg by
      have := Hz.out
      unfold askC at this ⊢
      unfold sgOf
      by_cases hl : 4096 < xs.length
      · rw [if_pos hl] at this ⊢; rw [(askC_long hl true).2]; exact ⟨this, rfl⟩
      · rw [if_neg hl] at this ⊢
        cases hc : contB xs
        · rw [hc] at this; exact ⟨this, rfl⟩
        · rw [hc] at this; exact absurd this.symm hz)
    go_enter Try.func21, Try.ntmps21
    go_wp2_with fail
    generalize (w.alloc (.cells #[.int .i64 p, .int .i64 b, .int .i64 v, .int .i64 t] 37)).alloc (.cells #[.int .i64 0, .int .i64 0, .int .i64 0, .slice none 0 0] 31) = W at *
    refine (contentCode_c A2 c2 B xs _ (h.below hx0 hB) (Nat.le_trans hB hx0.size) hn).mono ?_
    rintro e w1 ⟨rfl, hx1⟩
    rw [Hz.out]
    have bR := bR0.nx hx1
    have hX := hx0.trans hx1
    obtain ⟨rc0, rc1, rc2, rc3⟩ := bR.d4
    have rf0 := bR.frozen 0
    have rf1 := bR.frozen 1
    have rf2 := bR.frozen 2
    have rf3 := bR.frozen 3
    have rlt := bR.lt
    go_wp2
    have rq := (put4_box bR (.int .i64 0) (.int .i64 0) (.int .i64 0) (.slice none 0 0))
    have hnf := (put4_nx (g := (w.heap.size + 1)) hX (by omega) (.int .i64 0) (.int .i64 0) (.int .i64 0) (.slice none 0 0))
    unfold put4 at rq hnf
    generalize ((((w1.setCell ⟨(w.heap.size + 1), 0, none⟩ (.int .i64 0)).setCell ⟨(w.heap.size + 1), 1, none⟩ (.int .i64 0)).setCell ⟨(w.heap.size + 1), 2, none⟩ (.int .i64 0)).setCell ⟨(w.heap.size + 1), 3, none⟩ (.slice none 0 0)) = Wf at *
    obtain ⟨rg0, rg1, rg2, rg3⟩ := rq.d4
    exact bodyPost_ret (v := .tuple #[.agg #[.int .i64 0, .int .i64 0, .int .i64 0, .slice none 0 0], .int .i64 z]) (by simp [results, Try.results21, go_sem, rg0, rg1, rg2, rg3]) rfl ⟨none, 0, by rw [HR.out.1, HR.out.2]; rfl, by rw [HR.out.2]; exact Sl.none_ _ _ _ _ _, hnf⟩
  subst hz
  have HC := Lib.hid (show ¬ 4096 < xs.length ∧ contB xs = true by
    have := Hz.out
    unfold askC at this
    by_cases hl : 4096 < xs.length
    · rw [if_pos hl] at this; omega
    · rw [if_neg hl] at this
      cases hc : contB xs
      · rw [hc] at this; simp at this
      · exact ⟨hl, rfl⟩)
  cases hfb : frameB p b v t
  · have HFB := Lib.hid hfb
    clear hfb
    have HR := Lib.hid (show askC xs (frameB p b v t) = 1 ∧ sgOf xs p b v t = zSg by
      rw [HFB.out]; unfold askC sgOf; rw [if_neg HC.out.1, HC.out.2, HFB.out]; exact ⟨rfl, rfl⟩)
    rw [HFB.out] at HR
    go_enter Try.func21, Try.ntmps21
    go_wp2_with fail
    generalize (w.alloc (.cells #[.int .i64 p, .int .i64 b, .int .i64 v, .int .i64 t] 37)).alloc (.cells #[.int .i64 0, .int .i64 0, .int .i64 0, .slice none 0 0] 31) = W at *
    refine (contentCode_c A2 c2 B xs _ (h.below hx0 hB) (Nat.le_trans hB hx0.size) hn).mono ?_
    rintro e w1 ⟨rfl, hx1⟩
    rw [Hz.out]
    obtain ⟨k0, k1, k2, k3⟩ := (bF0.nx hx1).d4
    go_wp2_with fail
    refine (frameRight_c p b v t _).mono ?_
    rintro e w2 ⟨rfl, hx2⟩
    rw [HFB.out]
    have bR := (bR0.nx hx1).nx hx2
    have hX := (hx0.trans hx1).trans hx2
    clear k0 k1 k2 k3
    obtain ⟨rc0, rc1, rc2, rc3⟩ := bR.d4
    have rf0 := bR.frozen 0
    have rf1 := bR.frozen 1
    have rf2 := bR.frozen 2
    have rf3 := bR.frozen 3
    have rlt := bR.lt
    go_wp2
    have rq := (put4_box bR (.int .i64 0) (.int .i64 0) (.int .i64 0) (.slice none 0 0))
    have hnf := (put4_nx (g := (w.heap.size + 1)) hX (by omega) (.int .i64 0) (.int .i64 0) (.int .i64 0) (.slice none 0 0))
    unfold put4 at rq hnf
    generalize ((((w2.setCell ⟨(w.heap.size + 1), 0, none⟩ (.int .i64 0)).setCell ⟨(w.heap.size + 1), 1, none⟩ (.int .i64 0)).setCell ⟨(w.heap.size + 1), 2, none⟩ (.int .i64 0)).setCell ⟨(w.heap.size + 1), 3, none⟩ (.slice none 0 0)) = Wf at *
    obtain ⟨rg0, rg1, rg2, rg3⟩ := rq.d4
    exact bodyPost_ret (v := .tuple #[.agg #[.int .i64 0, .int .i64 0, .int .i64 0, .slice none 0 0], .int .i64 1]) (by simp [results, Try.results21, go_sem, rg0, rg1, rg2, rg3]) rfl ⟨none, 0, by rw [HR.out.1, HR.out.2]; rfl, by rw [HR.out.2]; exact Sl.none_ _ _ _ _ _, hnf⟩
  have HFB := Lib.hid hfb
  obtain ⟨hb0, hb7, hp1, hp2, _, _, _, _⟩ := frameB_block hfb
  clear hfb
  obtain ⟨n0, rfl⟩ : ∃ n : Nat, b = n := ⟨b.toNat, by omega⟩
  have HR := Lib.hid (show askC xs (frameB p n0 v t) = 0 ∧ sgOf xs p n0 v t = ofW xs p n0 v t by
    rw [HFB.out]; unfold askC sgOf; rw [if_neg HC.out.1, HC.out.2, HFB.out]; exact ⟨rfl, rfl⟩)
  rw [HFB.out] at HR
  have h8 := (contB_yes HC.out.2).1
  have hn0 : n0 < xs.length := by omega
  have hn1 : (n0 : Int) < (xs.length : Int) := by omega
  have hwp : IntKind.i64.wrap (p - 1) = p - 1 := IntWalk.i64_in _ (by omega)
  obtain ⟨o, Ho⟩ : ∃ o, Hid (xs.getD n0 0 = o) := ⟨_, rfl⟩
  clear h8
  go_enter Try.func21, Try.ntmps21
  go_wp2_with fail
  generalize (w.alloc (.cells #[.int .i64 p, .int .i64 (n0 : Int), .int .i64 v, .int .i64 t] 37)).alloc (.cells #[.int .i64 0, .int .i64 0, .int .i64 0, .slice none 0 0] 31) = W at *
  refine (contentCode_c A2 c2 B xs _ (h.below hx0 hB) (Nat.le_trans hB hx0.size) hn).mono ?_
  rintro e w0 ⟨rfl, hx1⟩
  rw [Hz.out]
  obtain ⟨k0, k1, k2, k3⟩ := (bF0.nx hx1).d4
  go_wp2_with fail
  refine (frameRight_c p n0 v t _).mono ?_
  rintro e w1 ⟨rfl, hx2⟩
  rw [HFB.out]
  have bR1 := (bR0.nx hx1).nx hx2
  have hX1 := (hx0.trans hx1).trans hx2
  have bF1 := (bF0.nx hx1).nx hx2
  have bF : Box w1.drew w.heap.size 37 #[.int .i64 p, .int .i64 (n0 : Int), .int .i64 v, .int .i64 t] := bF1
  clear bF1
  obtain ⟨g, off, rfl, hgB, hcell0⟩ := (h.below hX1 hB).at_ hn0
  rw [Ho.out] at hcell0
  have hcell : w1.drew.cell? ⟨g, off + n0, none⟩ = some (.int .i64 o) := hcell0
  have hgw : g < w1.drew.heap.size := by have := hX1.size; show g < w1.heap.size; omega
  clear k0 k1 k2 k3 bF0 bR0 hx0 hx1 hx2 hcell0
  go_wp2_with fail
  refine wp_region_lex [false, false, false, false, false, false, false, false, false, false, true, true] (fun w' => (w'.cell? ⟨w.heap.size, 0, none⟩ = some (.int .i64 p) ∧ w'.cell? ⟨w.heap.size, 1, none⟩ = some (.int .i64 (n0 : Int)) ∧ w'.cell? ⟨w.heap.size, 2, none⟩ = some (.int .i64 v) ∧ w'.cell? ⟨w.heap.size, 3, none⟩ = some (.int .i64 t)) ∧ w'.cell? ⟨g, off + n0, none⟩ = some (.int .i64 o)) (by kernel_rfl) (by kernel_rfl) rfl (by kernel_rfl) (fun _ _ d _ _ h => by cases d <;> exact h) (by exact ⟨bF.d4, hcell⟩) ?_
  repeat (first | (refine HL.take (v := ?_) (by rfl) ?_ ?_; rotate_left; (· (intro w hSw; (try dsimp only at hSw); go_simp; try with_reducible rfl)); (try simp only [Act.put, List.setIfInBounds_toArray, List.set_cons_zero, List.set_cons_succ])) | (refine HL.skip (by rfl) ?_; (try simp only [Act.put, List.setIfInBounds_toArray, List.set_cons_zero, List.set_cons_succ])))
  refine HL.call (by rfl) (fun K hK => ?_)
  go_simp
  refine hK.out _ _ (by exact ⟨(bF.alloc (.cells #[.int .i64 0, .int .i64 0, .int .i64 0] 45)).d4, (((Nx.refl w1.drew).alloc (.cells #[.int .i64 0, .int .i64 0, .int .i64 0] 45)).cell (p := ⟨g, off + n0, none⟩) hgw).trans hcell⟩) ?_
  clear hK K
  try simp only [Act.put, List.setIfInBounds_toArray, List.set_cons_zero, List.set_cons_succ]
  refine HL.call (by rfl) (fun K hK => ?_)
  go_simp
  refine hK.out _ _ (by exact ⟨(bF.alloc (.cells #[.int .i64 (n0 : Int), .int .i64 v, .int .i64 o] 45)).d4, (((Nx.refl w1.drew).alloc (.cells #[.int .i64 (n0 : Int), .int .i64 v, .int .i64 o] 45)).cell (p := ⟨g, off + n0, none⟩) hgw).trans hcell⟩) ?_
  clear hK K
  try simp only [Act.put, List.setIfInBounds_toArray, List.set_cons_zero, List.set_cons_succ]
  refine HL.done ?_
  have bF2 := bF.alloc (.cells #[.int .i64 (n0 : Int), .int .i64 v, .int .i64 o] 45)
  have bR2 := (bR1.nx (Nx.refl w1).drew).alloc (.cells #[.int .i64 (n0 : Int), .int .i64 v, .int .i64 o] 45)
  have bC2 : Box (w1.drew.alloc (.cells #[.int .i64 (n0 : Int), .int .i64 v, .int .i64 o] 45)) w1.heap.size 45 #[.int .i64 (n0 : Int), .int .i64 v, .int .i64 o] := Box.new w1.drew 45 #[.int .i64 (n0 : Int), .int .i64 v, .int .i64 o]
  have hX2 := hX1.drew.alloc (.cells #[.int .i64 (n0 : Int), .int .i64 v, .int .i64 o] 45)
  change Exit.then _ _ _ _ (w1.drew.alloc (.cells #[.int .i64 (n0 : Int), .int .i64 v, .int .i64 o] 45))
  generalize w1.drew.alloc (.cells #[.int .i64 (n0 : Int), .int .i64 v, .int .i64 o] 45) = W3 at *
  obtain ⟨k0, k1, k2, k3⟩ := bF2.d4
  obtain ⟨m0, m1, m2⟩ := bC2.d3
  have bR := bR2
  obtain ⟨rc0, rc1, rc2, rc3⟩ := bR.d4
  have rf0 := bR.frozen 0
  have rf1 := bR.frozen 1
  have rf2 := bR.frozen 2
  have rf3 := bR.frozen 3
  have rlt := bR.lt
  go_wp2
  have rq := (put4_box bR (.int .i64 (p - 1)) (.int .i64 p) (.int .i64 t) (.slice (some ⟨W3.heap.size, 0, none⟩) 1 1)).alloc (.cells #[.int .i64 (n0 : Int), .int .i64 v, .int .i64 o] 45)
  have hnf := (put4_nx (g := (w.heap.size + 1)) hX2 (by omega) (.int .i64 (p - 1)) (.int .i64 p) (.int .i64 t) (.slice (some ⟨W3.heap.size, 0, none⟩) 1 1)).alloc (.cells #[.int .i64 (n0 : Int), .int .i64 v, .int .i64 o] 45)
  unfold put4 at rq hnf
  have hsz3 : ((((W3.setCell ⟨(w.heap.size + 1), 0, none⟩ (.int .i64 (p - 1))).setCell ⟨(w.heap.size + 1), 1, none⟩ (.int .i64 p)).setCell ⟨(w.heap.size + 1), 2, none⟩ (.int .i64 t)).setCell ⟨(w.heap.size + 1), 3, none⟩ (.slice (some ⟨W3.heap.size, 0, none⟩) 1 1)).heap.size = W3.heap.size := by simp [World.setCell]
  have bC3 := Box.new ((((W3.setCell ⟨(w.heap.size + 1), 0, none⟩ (.int .i64 (p - 1))).setCell ⟨(w.heap.size + 1), 1, none⟩ (.int .i64 p)).setCell ⟨(w.heap.size + 1), 2, none⟩ (.int .i64 t)).setCell ⟨(w.heap.size + 1), 3, none⟩ (.slice (some ⟨W3.heap.size, 0, none⟩) 1 1)) 45 #[.int .i64 (n0 : Int), .int .i64 v, .int .i64 o]
  rw [hsz3] at bC3
  have hlw := hX2.size
  have hSf : Sl _ w.heap.size (some ⟨W3.heap.size, 0, none⟩) 45 ((ofW xs p n0 v t).2.2.2.length * 3) (chAt (ofW xs p n0 v t).2.2.2) := Sl.own (by unfold ofW; rw [Int.toNat_natCast, Ho.out]; exact one_own bC3) (by omega)
  clear hsz3
  generalize (((((W3.setCell ⟨(w.heap.size + 1), 0, none⟩ (.int .i64 (p - 1))).setCell ⟨(w.heap.size + 1), 1, none⟩ (.int .i64 p)).setCell ⟨(w.heap.size + 1), 2, none⟩ (.int .i64 t)).setCell ⟨(w.heap.size + 1), 3, none⟩ (.slice (some ⟨W3.heap.size, 0, none⟩) 1 1)).alloc (.cells #[.int .i64 (n0 : Int), .int .i64 v, .int .i64 o] 45)) = Wf at *
  obtain ⟨rg0, rg1, rg2, rg3⟩ := rq.d4
  exact bodyPost_ret (v := .tuple #[.agg #[.int .i64 (p - 1), .int .i64 p, .int .i64 t, .slice (some ⟨W3.heap.size, 0, none⟩) 1 1], .int .i64 0]) (by simp [results, Try.results21, go_sem, rg0, rg1, rg2, rg3]) rfl ⟨_, 1, by rw [HR.out.1, HR.out.2]; unfold ofW; rfl, by rw [HR.out.2]; exact hSf, hnf⟩
end Go.Proofs.Ytckekkhfjcaclaa
