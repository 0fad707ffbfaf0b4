/-
  Texts of the proof, put together in their order: Mku, Hlu, Rsu, Dok.
  Conditions: those of each.
-/
import Derived.Test.YteckhdkghfidiaaGreatDoorMc13
import Derived.Outline
/- Contracts of the laws' functions that mark supers and ask whether the marks are still there. Conditions: numbers below 2^40. -/
namespace Go.Proofs.YteckhdkghfidiaaGreatDoor
set_option linter.unusedVariables false
set_option maxRecDepth 100000
open Go.RowKit

def markM (k n : Nat) : List Mrk := (List.range n).map (fun i => (mt (k + i * 2), ((k + i * 2 + 1 : Nat) : Int)))
theorem markM_len (k n : Nat) : (markM k n).length = n := by simp [markM]
theorem markM_at {k n i : Nat} (h : i < n) : (markM k n).getD i mrZ = (mt (k + i * 2), ((k + i * 2 + 1 : Nat) : Int)) := by
  unfold markM; rw [List.getD_eq_getElem?_getD, List.getElem?_map, List.getElem?_range h]; rfl
set_option maxHeartbeats 1000000 in
theorem markMarkS_c (A : Option Addr) (n c k lo hi : Nat) (f : Nat → Value) (w : World) (h : Sr w lo hi A 103 (n * 2) f) (hi' : hi ≤ w.heap.size) (hn : n ≤ 1048576) (hk : k ≤ 1099500000000) :
    Calls Tryz.prog 62 #[.slice A n c, .int .i64 k] w fun e w' => e = .returned (.int .i64 ((k + n * 2 : Nat) : Int)) ∧ Sr w' lo hi A 103 (n * 2) (mrAt (markM k n)) ∧ Rg lo hi w w' ∧ TyK 103 w w' := by
  have HS : FillA w lo hi A n 103 (n * 2) 0 (mrAt (markM k n)) := fun hn0 => by
    obtain ⟨g, e, h1, h2, ho⟩ := h (by omega)
    exact ⟨g, e, h1, h2, Fill.start ho⟩
  go_enter Tryz.func62, Tryz.ntmps62
  go_wp2
  go_loopw [1, 5] (fun q i wr => ∃ j : Nat, j ≤ n ∧ i = .int .i64 j ∧ q = .int .i64 ((k + j * 2 : Nat) : Int) ∧ FillA wr lo hi A n 103 (n * 2) (j * 2) (mrAt (markM k n)) ∧ Rg lo hi w wr ∧ TyK 103 w wr) (fun _ i _ => n - (intOf i).toNat)
  case atStart => exact ⟨0, Nat.zero_le _, rfl, rfl, HS, Rg.of_nx (Nx.refl _), TyK.refl _ _⟩
  case round =>
    obtain ⟨j, hj, rfl, rfl, hf, hrg, hty⟩ := hrel
    clear HS
    by_cases hlt : j < n
    · obtain ⟨g, rfl, hg1, hg2, hfill⟩ := hf (by omega)
      go_wp2_with fail
      refine (markText_c (k + j * 2) _ (by omega)).mono ?_
      rintro e w2 ⟨rfl, hnx2⟩
      have hf2 := hfill.nx hnx2
      obtain ⟨v0, hv0⟩ := hf2.some_ (i := j * 2) (by omega)
      obtain ⟨v1, hv1⟩ := hf2.some_ (i := j * 2 + 1) (by omega)
      have hz0 := hf2.frozen (j * 2)
      have hz1 := hf2.frozen (j * 2 + 1)
      have hs1 := hf2.step (v := .string (mt (k + j * 2))) (by omega) (by rw [mrAt0, markM_at hlt])
      have hs2 := hs1.step (v := .int .i64 ((k + j * 2 + 1 : Nat) : Int)) (by omega) (by rw [mrAt1, markM_at hlt])
      have hr2 := ((hrg.trans (Rg.of_nx hnx2)).setCell (p := ⟨g, j * 2, none⟩) hg1 hg2 (.string (mt (k + j * 2)))).setCell (p := ⟨g, j * 2 + 1, none⟩) hg1 hg2 (.int .i64 ((k + j * 2 + 1 : Nat) : Int))
      have ht2 := ((hty.nx hnx2).set_fill (i := j * 2) hf2 (.string (mt (k + j * 2)))).set_fill (i := j * 2 + 1) hs1 (.int .i64 ((k + j * 2 + 1 : Nat) : Int))
      have e1 : (((k + j * 2 + 1 : Nat) : Int)) = (k : Int) + (j : Int) * 2 + 1 := by omega
      rw [e1] at hs2 hr2 ht2
      clear e1
      go_wp2
      go_roundw
      case rel =>
        refine ⟨j + 1, by omega, by go_num, by go_num, fun _ => ⟨g, rfl, hg1, hg2, ?_⟩, ?_, ?_⟩
        · rw [show (j + 1) * 2 = j * 2 + 1 + 1 by omega]
          exact hs2
        · exact hr2
        · exact ht2
      case measure => simp [intOf]; omega
    · obtain rfl : j = n := by omega
      go_wp2
      go_ret
      refine ⟨rfl, fun hn0 => ?_, hrg, hty⟩
      obtain ⟨g, e, h1, h2, ho⟩ := hf (by omega)
      exact ⟨g, e, h1, h2, ho.done⟩
set_option maxHeartbeats 1000000 in
/-- The marks come behind the table, so their block is not the table's: it holds another type. -/
theorem markIntT_c (A : Option Addr) (n c k lo hi : Nat) (f : Nat → Value) (w : World) (h : Sr w lo hi A 3 n f) (hn : n ≤ 1048576) (hk : k ≤ 4194304) :
    Calls Tryz.prog 61 #[.slice A n c, .int .i64 k] w fun e w' => e = .returned (.int .i64 ((k + n : Nat) : Int)) ∧ Sr w' lo hi A 3 n (mkAt k) ∧ Rg lo hi w w' ∧ TyK 3 w w' := by
  have HS : FillI w lo hi A n 0 k := fun hn0 => by
    obtain ⟨g, e, h1, h2, ho⟩ := h (by omega)
    exact ⟨g, e, h1, h2, Fill.start ho⟩
  go_enter Tryz.func61, Tryz.ntmps61
  go_wp2
  go_loopw [1, 5] (fun q i wr => ∃ j : Nat, j ≤ n ∧ i = .int .i64 j ∧ q = .int .i64 ((k + j : Nat) : Int) ∧ FillI wr lo hi A n j k ∧ Rg lo hi w wr ∧ TyK 3 w wr) (fun _ i _ => n - (intOf i).toNat)
  case atStart => exact ⟨0, Nat.zero_le _, rfl, rfl, HS, Rg.of_nx (Nx.refl _), TyK.refl _ _⟩
  case round =>
    obtain ⟨j, hj, rfl, rfl, hf, hrg, hty⟩ := hrel
    clear HS
    by_cases hlt : j < n
    · obtain ⟨g, rfl, hg1, hg2, hfill⟩ := hf (by omega)
      obtain ⟨v0, hv0⟩ := hfill.some_ (i := j) (by omega)
      have hz0 := hfill.frozen j
      clear hf
      go_wp2
      go_roundw
      case rel => exact ⟨j + 1, by omega, by go_num, by go_num, fun _ => ⟨g, rfl, hg1, hg2, hfill.step hlt rfl⟩, hrg.setCell hg1 hg2 _, hty.set_fill hfill _⟩
      case measure => simp [intOf]; omega
    · obtain rfl : j = n := by omega
      go_wp2
      go_ret
      refine ⟨rfl, fun hn0 => ?_, hrg, hty⟩
      obtain ⟨g, e, h1, h2, ho⟩ := hf (by omega)
      exact ⟨g, e, h1, h2, ho.done⟩
set_option maxHeartbeats 1000000 in
theorem markSuper_c (g b p t : Int) (A A2 : Option Addr) (n c n2 c2 k lo hi : Nat) (f f2 : Nat → Value) (w : World) (h : Sr w lo hi A 3 n f) (h2 : Sr w lo hi A2 103 (n2 * 2) f2) (hi' : hi ≤ w.heap.size) (hn : n ≤ 1048576) (hn2 : n2 ≤ 1048576) (hk : k ≤ 4194304) :
    Calls Tryz.prog 24 #[.agg #[.int .i64 g, .int .i64 b, .int .i64 p, .int .i64 t, .slice A n c, .slice A2 n2 c2], .int .i64 k] w fun e w' => e = .returned (.int .i64 ((k + n + n2 * 2 : Nat) : Int)) ∧ Sr w' lo hi A 3 n (mkAt k) ∧ Sr w' lo hi A2 103 (n2 * 2) (mrAt (markM (k + n) n2)) ∧ Rg lo hi w w' := by
  go_enter Tryz.func24, Tryz.ntmps24
  go_wp2_with fail
  have b0 := Box.new w 26 #[.int .i64 g, .int .i64 b, .int .i64 p, .int .i64 t, .slice A n c, .slice A2 n2 c2]
  have hnx0 := (Nx.refl w).alloc (.cells #[.int .i64 g, .int .i64 b, .int .i64 p, .int .i64 t, .slice A n c, .slice A2 n2 c2] 26)
  have HZ := Lib.hid (show (w.alloc (.cells #[.int .i64 g, .int .i64 b, .int .i64 p, .int .i64 t, .slice A n c, .slice A2 n2 c2] 26)).heap.size = w.heap.size + 1 by simp)
  generalize w.alloc (.cells #[.int .i64 g, .int .i64 b, .int .i64 p, .int .i64 t, .slice A n c, .slice A2 n2 c2] 26) = W at *
  refine (markIntT_c A n c k lo hi f _ (h.nx hnx0) hn hk).mono ?_
  rintro e w1 ⟨rfl, hS1, hr1, ht1⟩
  have b1 := b0.rg hr1 (.inr hi')
  obtain ⟨_, _, _, _, c4, c5⟩ := b1.d6
  have hsz1 := hr1.size
  go_wp2_with fail
  rw [show ((k : Int) + (n : Int)) = ((k + n : Nat) : Int) from by omega]
  refine (markMarkS_c A2 n2 c2 (k + n) lo hi f2 _ ((h2.nx hnx0).ty ht1 (by decide)) (by have := HZ.out; omega) hn2 (by omega)).mono ?_
  rintro e w2 ⟨rfl, hW2, hr2, ht2⟩
  go_wp2
  go_ret
  exact ⟨rfl, hS1.ty ht2 (by decide), hW2, ((Rg.of_nx hnx0).trans hr1).trans hr2⟩
end Go.Proofs.YteckhdkghfidiaaGreatDoor
/- Contracts of the laws' functions that ask whether a super's marks are still there. Conditions: numbers below 2^40. -/
namespace Go.Proofs.YteckhdkghfidiaaGreatDoor
set_option linter.unusedVariables false
set_option maxRecDepth 100000
open Go.RowKit

set_option maxHeartbeats 1000000 in
theorem heldMarkS_c (A : Option Addr) (n c k B : Nat) (w : World) (h : Row w B A (n * 2) (mrAt (markM k n))) (hB : B ≤ w.heap.size) (hn : n ≤ 1048576) (hk : k ≤ 1099500000000) :
    Calls Tryz.prog 64 #[.slice A n c, .int .i64 k] w fun e w' => e = .returned (.int .i64 ((k + n * 2 : Nat) : Int)) ∧ Nx w w' := by
  go_enter Tryz.func64, Tryz.ntmps64
  go_wp2
  go_loopw [1, 5] (fun q i wr => ∃ j : Nat, j ≤ n ∧ i = .int .i64 j ∧ q = .int .i64 ((k + j * 2 : Nat) : Int) ∧ Nx w wr) (fun _ i _ => n - (intOf i).toNat)
  case atStart => exact ⟨0, Nat.zero_le _, rfl, rfl, Nx.refl _⟩
  case round =>
    obtain ⟨j, hj, rfl, rfl, hnx⟩ := hrel
    by_cases hlt : j < n
    · obtain ⟨b, off, rfl, hb, hrow⟩ := (h.below hnx hB) (by omega)
      have hc := hrow (j * 2) (by omega)
      have hd := hrow (j * 2 + 1) (by omega)
      rw [mrAt0, markM_at hlt] at hc
      rw [mrAt1, markM_at hlt, ← Nat.add_assoc] at hd
      dsimp only at hc hd
      have hbw : b < wr.heap.size := Nat.lt_of_lt_of_le (Nat.lt_of_lt_of_le hb hB) hnx.size
      obtain ⟨q, Hq⟩ : ∃ q, Hid (k + j * 2 = q) := ⟨_, rfl⟩
      have hq9 : q ≤ 1099511000000 := by have := Hq.out; omega
      rw [Hq.out] at hc hd ⊢
      have hd' : wr.cell? ⟨b, off + j * 2 + 1, none⟩ = some (.int .i64 ((q : Int) + 1)) := by rw [hd]; rfl
      replace hd := hd'
      clear hrow hd'
      go_wp2_with fail
      refine wp_region_lex [false, false, false, false, false, false, true, false] (fun w' => w'.cell? ⟨b, off + j * 2, none⟩ = some (.string (mt q))) (by kernel_rfl) (by kernel_rfl) rfl (by kernel_rfl) (fun _ _ d _ _ h => by cases d <;> exact h) (by exact hc) ?_
      repeat (first | (refine HL.take (v := ?_) (by rfl) ?_ ?_; rotate_left; (· (intro w hSw; (try dsimp only at hSw); go_simp; try with_reducible rfl)); (try simp only [Act.put, List.setIfInBounds_toArray, List.set_cons_zero, List.set_cons_succ])) | (refine HL.skip (by rfl) ?_; (try simp only [Act.put, List.setIfInBounds_toArray, List.set_cons_zero, List.set_cons_succ])))
      refine HL.call (by rfl) (fun K hK => ?_)
      go_simp
      refine (markText_c q _ (by omega)).mono ?_; rintro e w1 ⟨rfl, hnx1⟩; have k0 := ((Nx.drew_r hnx1).cell (p := ⟨b, off + j * 2, none⟩) hbw).trans hc; have k1 := ((Nx.drew_r hnx1).cell (p := ⟨b, off + j * 2 + 1, none⟩) hbw).trans hd
      go_wp2_with fail
      refine hK.out _ _ (by exact k0) ?_
      clear hK K
      try simp only [Act.put, List.setIfInBounds_toArray, List.set_cons_zero, List.set_cons_succ]
      repeat (first | (refine HL.take (v := ?_) (by rfl) ?_ ?_; rotate_left; (· (intro w hSw; (try dsimp only at hSw); go_simp; try with_reducible rfl)); (try simp only [Act.put, List.setIfInBounds_toArray, List.set_cons_zero, List.set_cons_succ])) | (refine HL.skip (by rfl) ?_; (try simp only [Act.put, List.setIfInBounds_toArray, List.set_cons_zero, List.set_cons_succ])))
      refine HL.done ?_
      clear hc hd
      go_wp2
      go_roundw
      case rel => exact ⟨j + 1, by omega, by go_num, by rw [show k + (j + 1) * 2 = q + 1 + 1 by have := Hq.out; omega]; go_num, hnx.trans (Nx.drew_r hnx1)⟩
      case measure => simp [intOf]; omega
    · obtain rfl : j = n := by omega
      go_wp2
      go_ret
      exact ⟨rfl, hnx⟩
set_option maxHeartbeats 1000000 in
theorem heldSuper_c (g b p t : Int) (A A2 : Option Addr) (n c n2 c2 k B : Nat) (w : World) (h : Row w B A n (mkAt k)) (h2 : Row w B A2 (n2 * 2) (mrAt (markM (k + n) n2))) (hB : B ≤ w.heap.size) (hn : n ≤ 1048576) (hn2 : n2 ≤ 1048576) (hk : k ≤ 1048576) :
    Calls Tryz.prog 25 #[.agg #[.int .i64 g, .int .i64 b, .int .i64 p, .int .i64 t, .slice A n c, .slice A2 n2 c2], .int .i64 k] w fun e w' => e = .returned (.int .i64 ((k + n + n2 * 2 : Nat) : Int)) ∧ Nx w w' := by
  go_enter Tryz.func25, Tryz.ntmps25
  go_wp2_with fail
  have b0 := Box.new w 26 #[.int .i64 g, .int .i64 b, .int .i64 p, .int .i64 t, .slice A n c, .slice A2 n2 c2]
  have hnx0 := (Nx.refl w).alloc (.cells #[.int .i64 g, .int .i64 b, .int .i64 p, .int .i64 t, .slice A n c, .slice A2 n2 c2] 26)
  generalize w.alloc (.cells #[.int .i64 g, .int .i64 b, .int .i64 p, .int .i64 t, .slice A n c, .slice A2 n2 c2] 26) = W at *
  refine (heldIntS_c A n c k B _ (h.below hnx0 hB) hn hk).mono ?_
  rintro e w1 ⟨rfl, rfl⟩
  obtain ⟨_, _, _, _, c4, c5⟩ := b0.d6
  have hd1 : decide (((k + n : Nat) : Int) < 0) = false := by simp; omega
  have hd2 : decide (((k + n + n2 * 2 : Nat) : Int) < 0) = false := by simp; omega
  obtain ⟨q, Hq⟩ : ∃ q, Hid (k + n = q) := ⟨_, rfl⟩
  have hq9 : q ≤ 3000000 := by have := Hq.out; omega
  rw [Hq.out] at hd1 h2 hd2 ⊢
  go_wp2_with fail
  refine (heldMarkS_c A2 n2 c2 q B _ (h2.below hnx0 hB) (Nat.le_trans hB hnx0.size) hn2 (by omega)).mono ?_
  rintro e w2 ⟨rfl, hnx2⟩
  obtain ⟨r, Hr⟩ : ∃ r, Hid (q + n2 * 2 = r) := ⟨_, rfl⟩
  rw [Hr.out] at hd2 ⊢
  go_wp2
  go_ret
  exact ⟨ret_int (by have := Hr.out; have := Hq.out; omega), hnx0.trans hnx2⟩
end Go.Proofs.YteckhdkghfidiaaGreatDoor
/- Contracts of ReadSuper, as the model and as the program have it, and the walk of the law FnExactReadSuper. Conditions: the package's errors are known; the library's variable MaxLen holds a number. -/
namespace Go.Proofs.YteckhdkghfidiaaGreatDoor
set_option linter.unusedVariables false
set_option maxRecDepth 100000
open Go.RowKit

def RetRU (w : World) (t : ByteArray) (e : Ending) (w' : World) : Prop :=
  Nx w w' ∧ ∃ A c A2 c2, e = .returned (.tuple #[.agg #[.int .i64 (suA t).1, .int .i64 (suA t).2.1, .int .i64 (suA t).2.2.1, .int .i64 (suA t).2.2.2.1, .slice A (suA t).2.2.2.2.1.length c, .slice A2 (suA t).2.2.2.2.2.length c2], .int .i64 (suC t)]) ∧
    (suA t).2.2.2.2.1.length ≤ c ∧ SlI w' w.heap.size A (suA t).2.2.2.2.1 ∧ SlM w' w.heap.size A2 (suA t).2.2.2.2.2
theorem RetRU.un {w w' : World} {t : ByteArray} {e : Ending} {g b p q : Int} {xs : List Int} {ms : List Mrk} {cd : Int} (h : RetRU w t e w') (hq : suA t = (g, b, p, q, xs, ms)) (hc : suC t = cd) :
    Nx w w' ∧ ∃ A c A2 c2, e = .returned (.tuple #[.agg #[.int .i64 g, .int .i64 b, .int .i64 p, .int .i64 q, .slice A xs.length c, .slice A2 ms.length c2], .int .i64 cd]) ∧ xs.length ≤ c ∧ SlI w' w.heap.size A xs ∧ SlM w' w.heap.size A2 ms := by
  unfold RetRU at h; rw [hq, hc] at h; exact h
theorem RetRU.mk {w w' : World} {t : ByteArray} {g b p q : Int} {xs : List Int} {ms : List Mrk} {cd : Int} {c c2 : Nat} {A A2 : Option Addr} (hq : suA t = (g, b, p, q, xs, ms) ∧ suC t = cd) (hc : xs.length ≤ c) (hs : SlI w' w.heap.size A xs) (hm : SlM w' w.heap.size A2 ms) (hn : Nx w w') :
    RetRU w t (.returned (.tuple #[.agg #[.int .i64 g, .int .i64 b, .int .i64 p, .int .i64 q, .slice A xs.length c, .slice A2 ms.length c2], .int .i64 cd])) w' := by
  unfold RetRU; rw [hq.1, hq.2]; exact ⟨hn, A, c, A2, c2, rfl, hc, hs, hm⟩
theorem SlI.nil {w : World} {lo : Nat} : SlI w lo none [] := fun h => absurd h (by simp)
theorem SlM.nil {w : World} {lo : Nat} : SlM w lo none [] := fun h => absurd h (by simp)
theorem RetRU.zero {w w' : World} {t : ByteArray} {cd : Int} (hq : suA t = zU ∧ suC t = cd) (hn : Nx w w') :
    RetRU w t (.returned (.tuple #[.agg #[.int .i64 0, .int .i64 0, .int .i64 0, .int .i64 0, .slice none 0 0, .slice none 0 0], .int .i64 cd])) w' := RetRU.mk (g := 0) (b := 0) (p := 0) (q := 0) (xs := []) (ms := []) hq (Nat.le_refl _) SlI.nil SlM.nil hn
theorem suA_len (t : ByteArray) : (suA t).2.2.2.2.1.length ≤ 1048576 ∧ (suA t).2.2.2.2.2.length ≤ 1048576 := by
  by_cases h : t.size ≤ 65536
  case neg => rw [(suA_long h).1]; simp [zU]
  cases hr : rdU t with
  | none => rw [(suA_none h hr).1]; simp [zU]
  | some u =>
    obtain ⟨g, b, p, q, xs, ms⟩ := u
    rw [(suA_some h hr).1]
    have hs := superB_yes (rdU_super hr)
    have h1 := (tbB_yes hs.2.2.2.2.1).1
    have h2 := (msB_yes hs.2.2.2.2.2).1
    exact ⟨by show xs.length ≤ _; omega, by show ms.length ≤ _; omega⟩

/-- What superOfText answers, in one form: a super, an error, and the code that it has. -/
theorem superText_any (t : ByteArray) (a0 a1 : Addr) :
    ∃ (g b p q : Int) (xs : List Int) (ms : List Mrk) (ev : Value) (cd : Int), (suA t = (g, b, p, q, xs, ms) ∧ suC t = cd) ∧
      (∀ w', Er w' a0 a1 → Calls Tryz.prog 36 #[ev] w' fun e w'' => e = .returned (.int .i64 cd) ∧ w' = w'') ∧
      ∀ w', Er w' a0 a1 → Mx w' → Calls Tryz.prog 35 #[.string t] w' fun e w'' => ∃ A c A2 c2, e = .returned (.tuple #[.agg #[.int .i64 g, .int .i64 b, .int .i64 p, .int .i64 q, .slice A xs.length c, .slice A2 ms.length c2], ev]) ∧ xs.length ≤ c ∧ Nx w' w'' ∧ SlI w'' w'.heap.size A xs ∧ SlM w'' w'.heap.size A2 ms := by
  by_cases hl : t.size ≤ 65536
  case neg =>
    exact ⟨0, 0, 0, 0, [], [], _, 2, suA_long hl, fun w' h => textCode_long w' a0 a1 h, fun w' h _ => (superOfTextLong_c t w' a0 a1 (by omega) h).mono fun e w'' ⟨he, hn⟩ => ⟨none, 0, none, 0, he, Nat.le_refl _, hn, SlI.nil, SlM.nil⟩⟩
  cases hr : rdU t with
  | none => exact ⟨0, 0, 0, 0, [], [], _, 3, suA_none hl hr, fun w' h => textCode_form w' a0 a1 h, fun w' h hM => (superOfText_c t w' a0 a1 hl h hM).mono fun e w'' ⟨hn, h1, h2⟩ => ⟨none, 0, none, 0, h1 hr, Nat.le_refl _, hn, SlI.nil, SlM.nil⟩⟩
  | some u =>
    obtain ⟨g, b, p, q, xs, ms⟩ := u
    exact ⟨g, b, p, q, xs, ms, _, 0, suA_some hl hr, fun w' h => textCode_nil w', fun w' h hM => (superOfText_c t w' a0 a1 hl h hM).mono fun e w'' ⟨hn, h1, h2⟩ => by
      obtain ⟨A, c, A2, c2, he, hcc, hs, hm⟩ := h2 _ hr
      exact ⟨A, c, A2, c2, he, hcc, hn, hs, hm⟩⟩
set_option maxHeartbeats 800000 in
theorem implReadSuper_c (t : ByteArray) (w : World) (a0 a1 : Addr) (hE : Er w a0 a1) (hM : Mx w) : Calls Tryz.prog 9 #[.string t] w (RetRU w t) := by
  obtain ⟨g, b, p, q, xs, ms, ev, cd, hA, hTC, hFT⟩ := superText_any t a0 a1
  have HA := Lib.hid hA
  have HTC := Lib.hid hTC
  have HFT := Lib.hid hFT
  clear hA hTC hFT
  have b0 := Box.new w 26 #[.int .i64 0, .int .i64 0, .int .i64 0, .int .i64 0, .slice none 0 0, .slice none 0 0]
  have hx0 := (Nx.refl w).alloc (.cells #[.int .i64 0, .int .i64 0, .int .i64 0, .int .i64 0, .slice none 0 0, .slice none 0 0] 26)
  go_enter Tryz.func9, Tryz.ntmps9
  go_wp2_with fail
  generalize w.alloc (.cells #[.int .i64 0, .int .i64 0, .int .i64 0, .int .i64 0, .slice none 0 0, .slice none 0 0] 26) = W at *
  have hgl := b0.lt
  refine (HFT.out _ (hE.nx hx0) (hM.nx hx0)).mono ?_
  rintro e w1 ⟨A, c, A2, c2, rfl, hcc, hnx1, hS1, hM1⟩
  have HCC := Lib.hid hcc
  clear hcc
  go_wp2_with fail
  have b2 := (b0.nx hnx1).alloc (.cells #[.int .i64 g, .int .i64 b, .int .i64 p, .int .i64 q, .slice A xs.length c, .slice A2 ms.length c2] 26)
  have bx := Box.new w1 26 #[.int .i64 g, .int .i64 b, .int .i64 p, .int .i64 q, .slice A xs.length c, .slice A2 ms.length c2]
  have hgx : w1.heap.size ≠ w.heap.size := by have := (b0.nx hnx1).lt; omega
  have hx2 := (hx0.trans hnx1).alloc (.cells #[.int .i64 g, .int .i64 b, .int .i64 p, .int .i64 q, .slice A xs.length c, .slice A2 ms.length c2] 26)
  have hS2 := hS1.nx ((Nx.refl w1).alloc (.cells #[.int .i64 g, .int .i64 b, .int .i64 p, .int .i64 q, .slice A xs.length c, .slice A2 ms.length c2] 26))
  have hM2 := hM1.nx ((Nx.refl w1).alloc (.cells #[.int .i64 g, .int .i64 b, .int .i64 p, .int .i64 q, .slice A xs.length c, .slice A2 ms.length c2] 26))
  have hE2 := hE.nx hx2
  generalize w1.alloc (.cells #[.int .i64 g, .int .i64 b, .int .i64 p, .int .i64 q, .slice A xs.length c, .slice A2 ms.length c2] 26) = w2 at *
  obtain ⟨u0, u1, u2, u3, u4, u5⟩ := b2.d6
  have f0 := b2.frozen 0
  have f1 := b2.frozen 1
  have f2 := b2.frozen 2
  have f3 := b2.frozen 3
  have f4 := b2.frozen 4
  have f5 := b2.frozen 5
  refine wp_region_lex [false, false, true, true, false] (fun w' => w'.cell? ⟨w1.heap.size, 0, none⟩ = some (.int .i64 g) ∧ w'.cell? ⟨w1.heap.size, 1, none⟩ = some (.int .i64 b) ∧ w'.cell? ⟨w1.heap.size, 2, none⟩ = some (.int .i64 p) ∧ w'.cell? ⟨w1.heap.size, 3, none⟩ = some (.int .i64 q) ∧ w'.cell? ⟨w1.heap.size, 4, none⟩ = some (.slice A xs.length c) ∧ w'.cell? ⟨w1.heap.size, 5, none⟩ = some (.slice A2 ms.length c2)) (by kernel_rfl) (by kernel_rfl) rfl (by kernel_rfl) (fun _ _ d _ _ h => by cases d <;> exact h) (by exact bx.d6) ?_
  repeat (first | (refine HL.take (v := ?_) (by rfl) ?_ ?_; rotate_left; (· (intro w hSw; (try dsimp only at hSw); go_simp; try with_reducible rfl)); (try simp only [Act.put, List.setIfInBounds_toArray, List.set_cons_zero, List.set_cons_succ])) | (refine HL.skip (by rfl) ?_; (try simp only [Act.put, List.setIfInBounds_toArray, List.set_cons_zero, List.set_cons_succ])))
  refine HL.call (by rfl) (fun K hK => ?_)
  go_simp
  refine (HTC.out _ (hE2.nx (Nx.refl _).drew)).mono ?_; rintro e w' ⟨rfl, rfl⟩
  go_wp2_with fail
  refine hK.out _ _ (by exact bx.d6) ?_
  clear hK K
  try simp only [Act.put, List.setIfInBounds_toArray, List.set_cons_zero, List.set_cons_succ]
  refine HL.call (by rfl) (fun K hK => ?_)
  go_simp
  refine hK.out _ _ (by exact ((bx.far6 hgx (.int .i64 g) (.int .i64 b) (.int .i64 p) (.int .i64 q) (.slice A xs.length c) (.slice A2 ms.length c2)).drew).d6) ?_
  clear hK K
  try simp only [Act.put, List.setIfInBounds_toArray, List.set_cons_zero, List.set_cons_succ]
  repeat (first | (refine HL.take (v := ?_) (by rfl) ?_ ?_; rotate_left; (· (intro w hSw; (try dsimp only at hSw); go_simp; try with_reducible rfl)); (try simp only [Act.put, List.setIfInBounds_toArray, List.set_cons_zero, List.set_cons_succ])) | (refine HL.skip (by rfl) ?_; (try simp only [Act.put, List.setIfInBounds_toArray, List.set_cons_zero, List.set_cons_succ])))
  refine HL.done ?_
  clear u0 u1 u2 u3 u4 u5 f0 f1 f2 f3 f4 f5
  go_wp2
  have qx := (put6_box b2 (.int .i64 g) (.int .i64 b) (.int .i64 p) (.int .i64 q) (.slice A xs.length c) (.slice A2 ms.length c2)).drew
  have hnf := (put6_nx hx2 (Nat.le_refl w.heap.size) (.int .i64 g) (.int .i64 b) (.int .i64 p) (.int .i64 q) (.slice A xs.length c) (.slice A2 ms.length c2)).drew
  have hsf := ((hS2.pt6 hgl (.int .i64 g) (.int .i64 b) (.int .i64 p) (.int .i64 q) (.slice A xs.length c) (.slice A2 ms.length c2)).nx (Nx.refl _).drew)
  change Sl (World.drew (put6 w2 w.heap.size (.int .i64 g) (.int .i64 b) (.int .i64 p) (.int .i64 q) (.slice A xs.length c) (.slice A2 ms.length c2))) _ _ _ _ _ at hsf
  have hmf := ((hM2.pt6 hgl (.int .i64 g) (.int .i64 b) (.int .i64 p) (.int .i64 q) (.slice A xs.length c) (.slice A2 ms.length c2)).nx (Nx.refl _).drew)
  change Sl (World.drew (put6 w2 w.heap.size (.int .i64 g) (.int .i64 b) (.int .i64 p) (.int .i64 q) (.slice A xs.length c) (.slice A2 ms.length c2))) _ _ _ _ _ at hmf
  change bodyPost _ _ _ _ _ (World.drew (put6 w2 w.heap.size (.int .i64 g) (.int .i64 b) (.int .i64 p) (.int .i64 q) (.slice A xs.length c) (.slice A2 ms.length c2)))
  change Box (World.drew (put6 w2 w.heap.size (.int .i64 g) (.int .i64 b) (.int .i64 p) (.int .i64 q) (.slice A xs.length c) (.slice A2 ms.length c2))) _ _ _ at qx
  generalize World.drew (put6 w2 w.heap.size (.int .i64 g) (.int .i64 b) (.int .i64 p) (.int .i64 q) (.slice A xs.length c) (.slice A2 ms.length c2)) = Wf at *
  obtain ⟨g0, g1, g2, g3, g4, g5⟩ := qx.d6
  exact bodyPost_ret (v := .tuple #[.agg #[.int .i64 g, .int .i64 b, .int .i64 p, .int .i64 q, .slice A xs.length c, .slice A2 ms.length c2], .int .i64 cd]) (by simp [results, Tryz.results9, go_sem, g0, g1, g2, g3, g4, g5]) rfl (RetRU.mk HA.out HCC.out (hsf.low (by omega)) (hmf.low (by omega)) hnf)

end Go.Proofs.YteckhdkghfidiaaGreatDoor
/- Contracts of DiskOK, as the model and as the program have it: both answer the same bool of what the disk holds. Conditions: the disk can be read, and holds at most 1048576 elements of a kind. -/
namespace Go.Proofs.YteckhdkghfidiaaGreatDoor
set_option linter.unusedVariables false
open Go.RowKit

def secB (a : Int) : Bool := decide (0 ≤ a) && decide (a ≤ 63)
def sOk (s : ByteArray) : Bool := decide (s.size ≤ 300)
def wOk (x : Int × ByteArray) : Bool := secB x.1 && sOk x.2
def diskB (ss : List ByteArray) (ws : List (Int × ByteArray)) : Bool := (ss.length == 64) && decide (ws.length ≤ 80) && ss.all sOk && ws.all wOk

/-- The first k elements of a list pass. -/
def AllTo {α : Type} (p : α → Bool) (l : List α) (k : Nat) : Prop := (l.take k).all p = true
theorem AllTo.zero {α : Type} (p : α → Bool) (l : List α) : AllTo p l 0 := by simp [AllTo]
theorem AllTo.succ {α : Type} {p : α → Bool} {l : List α} {k : Nat} {d x : α} (h : AllTo p l k) (hk : k < l.length) (hx : l.getD k d = x) (hp : p x = true) : AllTo p l (k + 1) := by
  unfold AllTo at h ⊢
  rw [List.take_succ_eq_append_getElem hk, List.all_append, h]
  have : l[k] = x := by rw [← hx, List.getD_eq_getElem?_getD, List.getElem?_eq_getElem hk]; rfl
  simp [this, hp]
theorem AllTo.all {α : Type} {p : α → Bool} {l : List α} {k : Nat} (h : AllTo p l k) (hk : l.length = k) : l.all p = true := by
  unfold AllTo at h
  rwa [List.take_of_length_le (by omega)] at h
theorem all_no {α : Type} {p : α → Bool} {l : List α} {k : Nat} {d x : α} (hk : k < l.length) (hx : l.getD k d = x) (hp : p x = false) : l.all p = false := by
  rw [List.all_eq_false]
  refine ⟨l[k], List.getElem_mem hk, ?_⟩
  have : l[k] = x := by rw [← hx, List.getD_eq_getElem?_getD, List.getElem?_eq_getElem hk]; rfl
  rw [this, hp]; simp
theorem diskB_len {ss : List ByteArray} {ws : List (Int × ByteArray)} (h : ss.length ≠ 64 ∨ 80 < ws.length) : false = diskB ss ws := by
  unfold diskB
  rcases h with h | h
  · rw [beq_eq_false_iff_ne.2 h]; rfl
  · rw [decide_eq_false (p := ws.length ≤ 80) (by omega)]; simp
theorem diskB_s {ss : List ByteArray} {ws : List (Int × ByteArray)} (h : ss.all sOk = false) : false = diskB ss ws := by
  unfold diskB; rw [h]; simp
theorem diskB_w {ss : List ByteArray} {ws : List (Int × ByteArray)} (h : ws.all wOk = false) : false = diskB ss ws := by
  unfold diskB; rw [h]; simp
theorem diskB_yes {ss : List ByteArray} {ws : List (Int × ByteArray)} (h1 : ss.length = 64) (h2 : ws.length ≤ 80) (h3 : ss.all sOk = true) (h4 : ws.all wOk = true) : true = diskB ss ws := by
  unfold diskB; rw [h3, h4, h1]; simp [h2]
theorem diskB_len64 {ss : List ByteArray} {ws : List (Int × ByteArray)} (h : diskB ss ws = true) : ss.length = 64 ∧ ws.length ≤ 80 ∧ ss.all sOk = true ∧ ws.all wOk = true := by
  unfold diskB at h
  simp only [Bool.and_eq_true, beq_iff_eq, decide_eq_true_eq] at h
  exact ⟨h.1.1.1, h.1.1.2, h.1.2, h.2⟩

set_option maxHeartbeats 1000000 in
theorem l01In_d (a lo hi : Int) (w : World) : Calls Tryz.prog 81 #[.int .i64 a, .int .i64 lo, .int .i64 hi] w fun e w' => e = .returned (.bool (decide (lo ≤ a) && decide (a ≤ hi))) ∧ w = w' := by
  go_enter Tryz.func81, Tryz.ntmps81
  go_wp2
  all_goals (go_ret; refine ⟨ret_bool ?_, rfl⟩; rw [Bool.eq_iff_iff]; simp; try omega)

set_option maxHeartbeats 1000000 in
theorem specDiskOK_c (A A2 : Option Addr) (n c n2 c2 B : Nat) (ss : List ByteArray) (ws : List (Int × ByteArray)) (w : World) (h : Strs w B A n ss) (h2 : Wrs w B A2 n2 ws) (hB : B ≤ w.heap.size) (hn : n ≤ 1048576) (hn2 : n2 ≤ 1048576) :
    Calls Tryz.prog 44 #[.agg #[.slice A n c, .slice A2 n2 c2]] w fun e w' => e = .returned (.bool (diskB ss ws)) ∧ Nx w w' := by
  by_cases hl : n = 64
  case neg =>
    have h0 : ((n : Int) != 64) = true := by rw [bne_iff_ne]; omega
    have HF := Lib.hid (diskB_len (ss := ss) (ws := ws) (.inl (by rw [h.1]; exact hl)))
    go_enter Tryz.func44, Tryz.ntmps44
    go_wp2
    go_ret
    exact ⟨ret_bool HF.out, (Nx.refl _).alloc _⟩
  subst hl
  by_cases hl2 : n2 ≤ 80
  case neg =>
    have h0 : decide (80 < (n2 : Int)) = true := by simp; omega
    have HF := Lib.hid (diskB_len (ss := ss) (ws := ws) (.inr (by rw [h2.1]; omega)))
    go_enter Tryz.func44, Tryz.ntmps44
    go_wp2
    go_ret
    exact ⟨ret_bool HF.out, (Nx.refl _).alloc _⟩
  have h0 : decide (80 < (n2 : Int)) = false := by simp; omega
  go_enter Tryz.func44, Tryz.ntmps44
  go_wp2
  go_loop [3] (fun i => ∃ k : Nat, k ≤ 64 ∧ i = .int .i64 k ∧ AllTo sOk ss k) (fun i => 64 - (intOf i).toNat)
  case atStart => exact ⟨0, Nat.zero_le _, rfl, AllTo.zero _ _⟩
  case round =>
    obtain ⟨k, hk, rfl, hto⟩ := hrel
    by_cases hlt : k < 64
    · obtain ⟨b, off, rfl, hb, hc⟩ := (h.below ((Nx.refl w).alloc (.cells #[.slice A 64 c, .slice A2 n2 c2] 35)) hB).at_ hlt
      obtain ⟨s, Hs⟩ : ∃ s, Hid (ss.getD k ByteArray.empty = s) := ⟨_, rfl⟩
      rw [Hs.out] at hc
      have hkl : k < ss.length := by rw [h.1]; exact hlt
      by_cases hs : s.size ≤ 300
      · have h3 : decide (300 < (s.size : Int)) = false := by simp; omega
        go_wp2
        go_round
        case rel => exact ⟨k + 1, by omega, by go_num, hto.succ hkl Hs.out (by simp [sOk, hs])⟩
        case measure => simp [intOf]; omega
      · have h3 : decide (300 < (s.size : Int)) = true := by simp; omega
        have HF := Lib.hid (diskB_s (ws := ws) (all_no hkl Hs.out (p := sOk) (by simp [sOk]; omega)))
        go_wp2
        go_ret
        exact ⟨ret_bool HF.out, (Nx.refl _).alloc _⟩
    · obtain rfl : k = 64 := by omega
      have hall := Lib.hid (hto.all h.1)
      clear hto
      go_wp2
      go_loop [4] (fun i => ∃ k : Nat, k ≤ n2 ∧ i = .int .i64 k ∧ AllTo wOk ws k) (fun i => n2 - (intOf i).toNat)
      case atStart => exact ⟨0, Nat.zero_le _, rfl, AllTo.zero _ _⟩
      case round =>
        obtain ⟨k, hk, rfl, hto⟩ := hrel
        by_cases hlt : k < n2
        · obtain ⟨b, off, rfl, hb, hc, hd⟩ := (h2.below ((Nx.refl w).alloc (.cells #[.slice A 64 c, .slice A2 n2 c2] 35)) hB).at_ hlt
          obtain ⟨⟨a, s⟩, Hs⟩ : ∃ s, Hid (ws.getD k (0, ByteArray.empty) = s) := ⟨_, rfl⟩
          rw [Hs.out] at hc hd
          have hkl : k < ws.length := by rw [h2.1]; exact hlt
          cases hsec : secB a with
          | false =>
            have HF := Lib.hid (diskB_w (ss := ss) (all_no hkl Hs.out (p := wOk) (by simp [wOk, hsec])))
            have hsec' : (decide (0 ≤ a) && decide (a ≤ 63)) = false := hsec
            have HS := Lib.hid hsec'
            clear hsec hsec'
            go_wp2_with (go_at_call 81; refine (l01In_d a 0 63 _).mono ?_; rintro e w' ⟨rfl, rfl⟩; rw [HS.out])
            go_ret
            exact ⟨ret_bool HF.out, (Nx.refl _).alloc _⟩
          | true =>
            have hsec' : (decide (0 ≤ a) && decide (a ≤ 63)) = true := hsec
            have HS := Lib.hid hsec'
            have HSec := Lib.hid hsec
            clear hsec hsec'
            by_cases hs : s.size ≤ 300
            · have h3 : decide (300 < (s.size : Int)) = false := by simp; omega
              go_wp2_with (go_at_call 81; refine (l01In_d a 0 63 _).mono ?_; rintro e w' ⟨rfl, rfl⟩; rw [HS.out])
              go_round
              case rel => exact ⟨k + 1, by omega, by go_num, hto.succ hkl Hs.out (by simp [wOk, HSec.out, sOk, hs])⟩
              case measure => simp [intOf]; omega
            · have h3 : decide (300 < (s.size : Int)) = true := by simp; omega
              have HF := Lib.hid (diskB_w (ss := ss) (all_no hkl Hs.out (p := wOk) (by simp [wOk, sOk]; omega)))
              go_wp2_with (go_at_call 81; refine (l01In_d a 0 63 _).mono ?_; rintro e w' ⟨rfl, rfl⟩; rw [HS.out])
              go_ret
              exact ⟨ret_bool HF.out, (Nx.refl _).alloc _⟩
        · obtain rfl : k = n2 := by omega
          have hall2 := Lib.hid (hto.all h2.1)
          go_wp2
          go_ret
          exact ⟨ret_bool (diskB_yes h.1 (by rw [h2.1]; exact hl2) hall.out hall2.out), (Nx.refl _).alloc _⟩

set_option maxHeartbeats 1000000 in
theorem isSector_c (a : Int) (w : World) : Calls Tryz.prog 131 #[.int .i64 a] w fun e w' => e = .returned (.bool (secB a)) ∧ w = w' := by
  go_enter Tryz.func131, Tryz.ntmps131
  go_wp2
  all_goals (go_ret; refine ⟨ret_bool ?_, rfl⟩; unfold secB; rw [Bool.eq_iff_iff]; simp; try omega)

set_option maxHeartbeats 1000000 in
theorem writeRight_c (a : Int) (s : ByteArray) (w : World) : Calls Tryz.prog 95 #[.agg #[.int .i64 a, .string s]] w fun e w' => e = .returned (.bool (wOk (a, s))) ∧ Nx w w' := by
  cases hsec : secB a with
  | false =>
    have HF := Lib.hid (show false = wOk (a, s) by simp [wOk, hsec])
    have HS := Lib.hid hsec
    clear hsec
    go_enter Tryz.func95, Tryz.ntmps95
    go_wp2_with (go_at_call 131; refine (isSector_c a _).mono ?_; rintro e w' ⟨rfl, rfl⟩; rw [HS.out])
    go_ret
    exact ⟨ret_bool HF.out, (Nx.refl _).alloc _⟩
  | true =>
    have HF := Lib.hid (show decide (s.size ≤ 300) = wOk (a, s) by simp [wOk, hsec, sOk])
    have HS := Lib.hid hsec
    clear hsec
    go_enter Tryz.func95, Tryz.ntmps95
    go_wp2_with (go_at_call 131; refine (isSector_c a _).mono ?_; rintro e w' ⟨rfl, rfl⟩; rw [HS.out])
    go_ret
    refine ⟨ret_bool ?_, (Nx.refl _).alloc _⟩
    rw [← HF.out, Bool.eq_iff_iff]; simp; try omega

set_option maxHeartbeats 1000000 in
theorem isRight_c (A A2 : Option Addr) (n c n2 c2 B : Nat) (ss : List ByteArray) (ws : List (Int × ByteArray)) (w : World) (h : Strs w B A n ss) (h2 : Wrs w B A2 n2 ws) (hB : B ≤ w.heap.size) (hn : n ≤ 1048576) (hn2 : n2 ≤ 1048576) :
    Calls Tryz.prog 38 #[.agg #[.slice A n c, .slice A2 n2 c2]] w fun e w' => e = .returned (.bool (diskB ss ws)) ∧ Nx w w' := by
  by_cases hl : n = 64
  case neg =>
    have h0 : ((n : Int) != 64) = true := by rw [bne_iff_ne]; omega
    have HF := Lib.hid (diskB_len (ss := ss) (ws := ws) (.inl (by rw [h.1]; exact hl)))
    go_enter Tryz.func38, Tryz.ntmps38
    go_wp2
    go_ret
    exact ⟨ret_bool HF.out, (Nx.refl _).alloc _⟩
  subst hl
  by_cases hl2 : n2 ≤ 80
  case neg =>
    have h0 : decide (80 < (n2 : Int)) = true := by simp; omega
    have HF := Lib.hid (diskB_len (ss := ss) (ws := ws) (.inr (by rw [h2.1]; omega)))
    go_enter Tryz.func38, Tryz.ntmps38
    go_wp2
    go_ret
    exact ⟨ret_bool HF.out, (Nx.refl _).alloc _⟩
  have h0 : decide (80 < (n2 : Int)) = false := by simp; omega
  go_enter Tryz.func38, Tryz.ntmps38
  go_wp2
  go_loop [20] (fun i => ∃ k : Nat, k ≤ 64 ∧ i = .int .i64 k ∧ AllTo sOk ss k) (fun i => 64 - (intOf i).toNat)
  case atStart => exact ⟨0, Nat.zero_le _, rfl, AllTo.zero _ _⟩
  case round =>
    obtain ⟨k, hk, rfl, hto⟩ := hrel
    by_cases hlt : k < 64
    · obtain ⟨b, off, rfl, hb, hc⟩ := (h.below ((Nx.refl w).alloc (.cells #[.slice A 64 c, .slice A2 n2 c2] 35)) hB).at_ hlt
      obtain ⟨s, Hs⟩ : ∃ s, Hid (ss.getD k ByteArray.empty = s) := ⟨_, rfl⟩
      rw [Hs.out] at hc
      have hkl : k < ss.length := by rw [h.1]; exact hlt
      by_cases hs : s.size ≤ 300
      · have h3 : decide (300 < (s.size : Int)) = false := by simp; omega
        go_wp2
        go_round
        case rel => exact ⟨k + 1, by omega, by go_num, hto.succ hkl Hs.out (by simp [sOk, hs])⟩
        case measure => simp [intOf]; omega
      · have h3 : decide (300 < (s.size : Int)) = true := by simp; omega
        have HF := Lib.hid (diskB_s (ws := ws) (all_no hkl Hs.out (p := sOk) (by simp [sOk]; omega)))
        go_wp2
        go_ret
        exact ⟨ret_bool HF.out, (Nx.refl _).alloc _⟩
    · obtain rfl : k = 64 := by omega
      have hall := Lib.hid (hto.all h.1)
      clear hto
      go_wp2
      go_loopw [31] (fun i wr => ∃ k : Nat, k ≤ n2 ∧ i = .int .i64 k ∧ AllTo wOk ws k ∧ Nx w wr) (fun i _ => n2 - (intOf i).toNat)
      case atStart => exact ⟨0, Nat.zero_le _, rfl, AllTo.zero _ _, (Nx.refl _).alloc _⟩
      case round =>
        obtain ⟨k, hk, rfl, hto, hnx⟩ := hrel
        by_cases hlt : k < n2
        · obtain ⟨b, off, rfl, hb, hc, hd⟩ := (h2.below hnx hB).at_ hlt
          obtain ⟨⟨a, s⟩, Hs⟩ : ∃ s, Hid (ws.getD k (0, ByteArray.empty) = s) := ⟨_, rfl⟩
          rw [Hs.out] at hc hd
          have hkl : k < ws.length := by rw [h2.1]; exact hlt
          cases hok : wOk (a, s) with
          | false =>
            have HF := Lib.hid (diskB_w (ss := ss) (all_no hkl Hs.out (p := wOk) hok))
            have HO := Lib.hid hok
            clear hok
            go_wp2_with fail
            refine (writeRight_c a s _).mono ?_
            rintro e w1 ⟨rfl, hnx1⟩
            rw [HO.out]
            go_wp2
            go_ret
            exact ⟨ret_bool HF.out, (hnx.alloc _).trans hnx1⟩
          | true =>
            have HO := Lib.hid hok
            clear hok
            go_wp2_with fail
            refine (writeRight_c a s _).mono ?_
            rintro e w1 ⟨rfl, hnx1⟩
            rw [HO.out]
            go_wp2
            go_roundw
            case rel => exact ⟨k + 1, by omega, by go_num, hto.succ hkl Hs.out HO.out, (hnx.alloc _).trans hnx1⟩
            case measure => simp [intOf]; omega
        · obtain rfl : k = n2 := by omega
          have hall2 := Lib.hid (hto.all h2.1)
          go_wp2
          go_ret
          exact ⟨ret_bool (diskB_yes h.1 (by rw [h2.1]; exact hl2) hall.out hall2.out), hnx⟩

end Go.Proofs.YteckhdkghfidiaaGreatDoor
