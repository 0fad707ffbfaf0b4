/-
  Texts of the proof, put together in their order: Mk, Mku, Hlu.
  Conditions: those of each.
-/
import Derived.Test.YteckhdkghfidiaaGreatDoorMg15
import Derived.StillTailTactics
import Derived.Deep.RegionHeld3
import Derived.Laws.BytesArg
import Derived.Outline
/- Contracts of the laws' functions that mark disks and ask whether the marks are still there. Conditions: numbers below 2^40. -/
namespace Go.Proofs.YteckhdkghfidiaaGreatDoor
set_option linter.unusedVariables false
open Go.RowKit

/-- The text of one digit. -/
def dg (k : Nat) : ByteArray := strOfNums [48 + (k : Int) % 10]
theorem dg_size (k : Nat) : (dg k).size = 1 := by simp [dg, strOfNums, ByteArray.size]
def mtL (k : Nat) (o : ByteArray) : ByteArray := if h : k = 0 then o else mtL (k / 10) (dg k ++ o)
termination_by k
decreasing_by omega
theorem mtL_zero (o : ByteArray) : mtL 0 o = o := by rw [mtL]; simp
theorem mtL_pos (k : Nat) (o : ByteArray) (h : 0 < k) : mtL k o = mtL (k / 10) (dg k ++ o) := by rw [mtL, dif_neg (by omega)]
/-- The mark of a number. -/
def mt (k : Nat) : ByteArray := if k = 0 then ⟨#[109, 48]⟩ else ⟨#[109]⟩ ++ mtL k ⟨#[]⟩
def MtTo (K k : Nat) (o : ByteArray) : Prop := mtL K ⟨#[]⟩ = mtL k o

theorem MtTo.next_ {K k : Nat} {o : ByteArray} (h : MtTo K k o) (hp : 0 < k) : MtTo K (k / 10) (dg k ++ o) := by
  unfold MtTo at h ⊢; rw [h, mtL_pos k o hp]
theorem MtTo.done {K : Nat} {o : ByteArray} (h : MtTo K 0 o) (hK : 0 < K) : ⟨#[109]⟩ ++ o = mt K := by
  unfold MtTo at h
  unfold mt
  rw [if_neg (by omega), h, mtL_zero]
theorem ret_str' {a b : ByteArray} (h : a = b) : Ending.returned (.string a) = .returned (.string b) := by rw [h]
theorem conv_one (x : Int) (W : World) : (convert 22 9 (.slice (some ⟨W.heap.size, 0, none⟩) 1 1)).run Tryz.prog (W.alloc (.cells #[.int .u8 x] 5)) = .ok (.string (strOfNums [x])) (W.alloc (.cells #[.int .u8 x] 5)) :=
  run_convert_bytes_arg _ 22 5 Tryz.underlying22 Tryz.underlying5 W.heap.size 0 1 1 [x] rfl (fun i hi => by
    obtain rfl : i = 0 := by omega
    exact (Box.new W 5 #[.int .u8 x]).cell 0) 9 Tryz.underlying9

set_option maxHeartbeats 1000000 in
theorem markText_c (k : Nat) (w : World) (hk : k ≤ 1099511627776) : Calls Tryz.prog 112 #[.int .i64 k] w fun e w' => e = .returned (.string (mt k)) ∧ Nx w w' := by
  rcases Nat.eq_zero_or_pos k with hz | hp
  · subst hz
    go_enter Tryz.func112, Tryz.ntmps112
    go_wp2
    go_ret
    exact ⟨rfl, Nx.refl _⟩
  have hd : decide ((k : Int) ≤ 0) = false := by simp; omega
  have hd0 : decide (k = 0) = false := by simp; omega
  go_enter Tryz.func112, Tryz.ntmps112
  go_wp2
  go_loopw [0, 3] (fun i o wr => ∃ (j : Nat) (s : ByteArray), j ≤ k ∧ i = .int .i64 j ∧ o = .string s ∧ s.size + j ≤ k ∧ MtTo k j s ∧ Nx w wr) (fun i _ _ => (intOf i).toNat)
  case atStart => exact ⟨k, ⟨#[]⟩, Nat.le_refl _, rfl, rfl, by show 0 + k ≤ k; omega, rfl, Nx.refl _⟩
  case round =>
    obtain ⟨j, s, hj, rfl, rfl, hs, hto, hnx⟩ := hrel
    rcases Nat.eq_zero_or_pos j with hz | hp2
    · subst hz
      have HF := Lib.hid (hto.done hp)
      go_wp2
      go_ret
      exact ⟨ret_str' HF.out, hnx⟩
    · have hd2 : decide (0 < (j : Int)) = true := by simp; omega
      have hcv := conv_one (48 + (j : Int) % 10) wr
      have HF := Lib.hid (hto.next_ hp2)
      rw [show strOfNums [48 + (j : Int) % 10] = dg j from rfl] at hcv
      have HZ := Lib.hid (dg_size j)
      have hz1 : (dg j).size ≤ 1 := by rw [HZ.out]; omega
      generalize dg j = g at *
      go_wp2
      go_roundw
      case rel => exact ⟨j / 10, g ++ s, by omega, by go_num, rfl, by rw [ByteArray.size_append]; have := HZ.out; omega, HF.out, hnx.alloc _⟩
      case measure => simp [intOf]; omega

def markS (k n : Nat) : List ByteArray := (List.range n).map (fun i => mt (k + i))
def markW (k n : Nat) : List (Int × ByteArray) := (List.range n).map (fun i => (((k + i * 2 : Nat) : Int), mt (k + i * 2 + 1)))
theorem markS_len (k n : Nat) : (markS k n).length = n := by simp [markS]
theorem markW_len (k n : Nat) : (markW k n).length = n := by simp [markW]
theorem markS_at {k n i : Nat} (h : i < n) : (markS k n).getD i ByteArray.empty = mt (k + i) := by
  unfold markS; rw [List.getD_eq_getElem?_getD, List.getElem?_map, List.getElem?_range h]; rfl
theorem markW_at {k n i : Nat} (h : i < n) : (markW k n).getD i (0, ByteArray.empty) = (((k + i * 2 : Nat) : Int), mt (k + i * 2 + 1)) := by
  unfold markW; rw [List.getD_eq_getElem?_getD, List.getElem?_map, List.getElem?_range h]; rfl
/-- A slice that is being filled with marks. -/
def FillA (w : World) (lo hi : Nat) (A : Option Addr) (n : Nat) (t : TypeId) (m k : Nat) (F : Nat → Value) : Prop := 0 < n → ∃ g, A = some ⟨g, 0, none⟩ ∧ lo ≤ g ∧ g < hi ∧ Fill w g t m k F

set_option maxHeartbeats 1000000 in
theorem markStringS_c (A : Option Addr) (n c k lo hi : Nat) (ss : List ByteArray) (w : World) (h : SrS w lo hi A n ss) (hi' : hi ≤ w.heap.size) (hn : n ≤ 1048576) (hk : k ≤ 1099510579200) :
    Calls Tryz.prog 59 #[.slice A n c, .int .i64 k] w fun e w' => e = .returned (.int .i64 ((k + n : Nat) : Int)) ∧ SrS w' lo hi A n (markS k n) ∧ Rg lo hi w w' ∧ TyK 9 w w' := by
  have HS : FillA w lo hi A n 9 n 0 (strAt (markS k n)) := fun hn0 => by
    obtain ⟨g, e, h1, h2, ho⟩ := h.2 hn0
    unfold OwnS at ho
    rw [h.1] at ho
    exact ⟨g, e, h1, h2, Fill.start ho⟩
  go_enter Tryz.func59, Tryz.ntmps59
  go_wp2
  go_loopw [1, 5] (fun q i wr => ∃ j : Nat, j ≤ n ∧ i = .int .i64 j ∧ q = .int .i64 ((k + j : Nat) : Int) ∧ FillA wr lo hi A n 9 n j (strAt (markS k n)) ∧ Rg lo hi w wr ∧ TyK 9 w wr) (fun _ i _ => n - (intOf i).toNat)
  case atStart => exact ⟨0, Nat.zero_le _, rfl, rfl, HS, Rg.of_nx (Nx.refl _), TyK.refl _ _⟩
  case round =>
    obtain ⟨j, hj, rfl, rfl, hf, hrg, hty⟩ := hrel
    clear HS
    by_cases hlt : j < n
    · obtain ⟨g, rfl, hg1, hg2, hfill⟩ := hf (by omega)
      go_wp2_with fail
      refine (markText_c (k + j) _ (by omega)).mono ?_
      rintro e w1 ⟨rfl, hnx1⟩
      have hf1 := hfill.nx hnx1
      obtain ⟨v, hv⟩ := hf1.some_ hlt
      have hz := hf1.frozen j
      go_wp2
      go_roundw
      case rel =>
        refine ⟨j + 1, by omega, by go_num, by go_num, fun _ => ⟨g, rfl, hg1, hg2, hf1.step hlt ?_⟩, (hrg.trans (Rg.of_nx hnx1)).setCell hg1 hg2 _, (hty.nx hnx1).set_fill hf1 _⟩
        unfold strAt; rw [markS_at hlt]
      case measure => simp [intOf]; omega
    · obtain rfl : j = n := by omega
      go_wp2
      go_ret
      refine ⟨rfl, ⟨markS_len _ _, fun hn0 => ?_⟩, hrg, hty⟩
      obtain ⟨g, e, h1, h2, ho⟩ := hf hn0
      refine ⟨g, e, h1, h2, ?_⟩
      unfold OwnS
      rw [markS_len]
      exact ho.done

set_option maxHeartbeats 1000000 in
theorem markWriteS_c (A : Option Addr) (n c k lo hi : Nat) (ws : List (Int × ByteArray)) (w : World) (h : SrW w lo hi A n ws) (hi' : hi ≤ w.heap.size) (hn : n ≤ 1048576) (hk : k ≤ 1099500000000) :
    Calls Tryz.prog 60 #[.slice A n c, .int .i64 k] w fun e w' => e = .returned (.int .i64 ((k + n * 2 : Nat) : Int)) ∧ SrW w' lo hi A n (markW k n) ∧ Rg lo hi w w' ∧ TyK 85 w w' := by
  have HS : FillA w lo hi A n 85 (n * 2) 0 (wrAt (markW k n)) := fun hn0 => by
    obtain ⟨g, e, h1, h2, ho⟩ := h.2 hn0
    unfold OwnW at ho
    rw [h.1] at ho
    exact ⟨g, e, h1, h2, Fill.start ho⟩
  go_enter Tryz.func60, Tryz.ntmps60
  go_wp2
  go_loopw [1, 5] (fun q i wr => ∃ j : Nat, j ≤ n ∧ i = .int .i64 j ∧ q = .int .i64 ((k + j * 2 : Nat) : Int) ∧ FillA wr lo hi A n 85 (n * 2) (j * 2) (wrAt (markW k n)) ∧ Rg lo hi w wr ∧ TyK 85 w wr) (fun _ i _ => n - (intOf i).toNat)
  case atStart => exact ⟨0, Nat.zero_le _, rfl, rfl, HS, Rg.of_nx (Nx.refl _), TyK.refl _ _⟩
  case round =>
    obtain ⟨j, hj, rfl, rfl, hf, hrg, hty⟩ := hrel
    clear HS
    by_cases hlt : j < n
    · obtain ⟨g, rfl, hg1, hg2, hfill⟩ := hf (by omega)
      have hs1 := hfill.step (v := .int .i64 ((k : Int) + (j : Int) * 2)) (by omega) (by rw [wrAt_even, markW_at hlt]; go_num)
      obtain ⟨v0, hv0⟩ := hfill.some_ (i := j * 2) (by omega)
      have hz0 := hfill.frozen (j * 2)
      go_wp2_with fail
      have hr1 := hrg.setCell (p := ⟨g, j * 2, none⟩) hg1 hg2 (.int .i64 ((k : Int) + (j : Int) * 2))
      have ht1 := hty.set_fill (i := j * 2) hfill (.int .i64 ((k : Int) + (j : Int) * 2))
      generalize wr.setCell ⟨g, j * 2, none⟩ (.int .i64 ((k : Int) + (j : Int) * 2)) = w1 at *
      clear hv0 hz0 hfill
      rw [show ((k : Int) + (j : Int) * 2 + 1) = ((k + j * 2 + 1 : Nat) : Int) from by omega]
      refine (markText_c (k + j * 2 + 1) _ (by omega)).mono ?_
      rintro e w2 ⟨rfl, hnx2⟩
      have hf2 := hs1.nx hnx2
      obtain ⟨v1, hv1⟩ := hf2.some_ (i := j * 2 + 1) (by omega)
      have hz1 := hf2.frozen (j * 2 + 1)
      go_wp2
      go_roundw
      case rel =>
        refine ⟨j + 1, by omega, by go_num, by go_num, fun _ => ⟨g, rfl, hg1, hg2, ?_⟩, (hr1.trans (Rg.of_nx hnx2)).setCell hg1 hg2 _, (ht1.nx hnx2).set_fill hf2 _⟩
        rw [show (j + 1) * 2 = j * 2 + 1 + 1 by omega]
        exact hf2.step (by omega) (by rw [wrAt_odd, markW_at hlt])
      case measure => simp [intOf]; omega
    · obtain rfl : j = n := by omega
      go_wp2
      go_ret
      refine ⟨rfl, ⟨markW_len _ _, fun hn0 => ?_⟩, hrg, hty⟩
      obtain ⟨g, e, h1, h2, ho⟩ := hf hn0
      refine ⟨g, e, h1, h2, ?_⟩
      unfold OwnW
      rw [markW_len]
      exact ho.done

set_option maxHeartbeats 1000000 in
theorem heldStringS_c (A : Option Addr) (n c k B : Nat) (w : World) (h : Strs w B A n (markS k n)) (hB : B ≤ w.heap.size) (hn : n ≤ 1048576) (hk : k ≤ 1099510579200) :
    Calls Tryz.prog 69 #[.slice A n c, .int .i64 k] w fun e w' => e = .returned (.int .i64 ((k + n : Nat) : Int)) ∧ Nx w w' := by
  go_enter Tryz.func69, Tryz.ntmps69
  go_wp2
  go_loopw [1, 5] (fun q i wr => ∃ j : Nat, j ≤ n ∧ i = .int .i64 j ∧ q = .int .i64 ((k + j : Nat) : Int) ∧ Nx w wr) (fun _ i _ => n - (intOf i).toNat)
  case atStart => exact ⟨0, Nat.zero_le _, rfl, rfl, Nx.refl _⟩
  case round =>
    obtain ⟨j, hj, rfl, rfl, hnx⟩ := hrel
    by_cases hlt : j < n
    · have hnd : Nx w wr.drew := hnx.drew
      obtain ⟨b, off, rfl, hb, hc⟩ := (h.below hnd hB).at_ hlt
      rw [markS_at hlt] at hc
      have hbw : b < wr.drew.heap.size := Nat.lt_of_lt_of_le (Nat.lt_of_lt_of_le hb hB) hnd.size
      go_wp2_with fail
      go_region_held3 (fun w' => w'.cell? ⟨b, off + j, none⟩ = some (.string (mt (k + j)))) (first | exact hc | exact k0)
        (first | (go_at_call 112; refine (markText_c (k + j) _ (by omega)).mono ?_; rintro e w1 ⟨rfl, hnx1⟩; have k0 := (hnx1.cell (p := ⟨b, off + j, none⟩) hbw).trans hc))
      go_wp2
      go_roundw
      case rel => exact ⟨j + 1, by omega, by go_num, by go_num, hnd.trans hnx1⟩
      case measure => simp [intOf]; omega
    · obtain rfl : j = n := by omega
      go_wp2
      go_ret
      exact ⟨rfl, hnx⟩

set_option maxHeartbeats 1000000 in
theorem heldWriteS_c (A : Option Addr) (n c k B : Nat) (w : World) (h : Wrs w B A n (markW k n)) (hB : B ≤ w.heap.size) (hn : n ≤ 1048576) (hk : k ≤ 1099500000000) :
    Calls Tryz.prog 70 #[.slice A n c, .int .i64 k] w fun e w' => e = .returned (.int .i64 ((k + n * 2 : Nat) : Int)) ∧ Nx w w' := by
  go_enter Tryz.func70, Tryz.ntmps70
  go_wp2
  go_loopw [1, 5] (fun q i wr => ∃ j : Nat, j ≤ n ∧ i = .int .i64 j ∧ q = .int .i64 ((k + j * 2 : Nat) : Int) ∧ Nx w wr) (fun _ i _ => n - (intOf i).toNat)
  case atStart => exact ⟨0, Nat.zero_le _, rfl, rfl, Nx.refl _⟩
  case round =>
    obtain ⟨j, hj, rfl, rfl, hnx⟩ := hrel
    by_cases hlt : j < n
    · have hnd : Nx w wr.drew := hnx.drew
      obtain ⟨b, off, rfl, hb, hc, hd⟩ := (h.below hnd hB).at_ hlt
      rw [markW_at hlt] at hc hd
      have hc' : wr.cell? ⟨b, off + j * 2, none⟩ = some (.int .i64 ((k : Int) + (j : Int) * 2)) := by
        have e : (((k + j * 2 : Nat) : Int)) = (k : Int) + (j : Int) * 2 := by omega
        rw [← e]; exact hc
      clear hc
      have hbw : b < wr.drew.heap.size := Nat.lt_of_lt_of_le (Nat.lt_of_lt_of_le hb hB) hnd.size
      rw [show (((k + j * 2 : Nat) : Int)) = (k : Int) + (j : Int) * 2 from by omega]
      dsimp only at hd
      go_wp2_with fail
      go_region_held3 (fun w' => w'.cell? ⟨b, off + j * 2 + 1, none⟩ = some (.string (mt (k + j * 2 + 1)))) (first | exact hd | exact k0)
        (first | (go_at_call 112; rw [show ((k : Int) + (j : Int) * 2 + 1) = ((k + j * 2 + 1 : Nat) : Int) from by omega]; refine (markText_c (k + j * 2 + 1) _ (by omega)).mono ?_; rintro e w1 ⟨rfl, hnx1⟩; have k0 := (hnx1.cell (p := ⟨b, off + j * 2 + 1, none⟩) hbw).trans hd))
      go_wp2
      go_roundw
      case rel => exact ⟨j + 1, by omega, by go_num, by go_num, hnd.trans hnx1⟩
      case measure => simp [intOf]; omega
    · obtain rfl : j = n := by omega
      go_wp2
      go_ret
      exact ⟨rfl, hnx⟩

set_option maxHeartbeats 1000000 in
theorem markDisk_c (A A2 : Option Addr) (n c n2 c2 k lo hi : Nat) (ss : List ByteArray) (ws : List (Int × ByteArray)) (w : World) (h : SrS w lo hi A n ss) (h2 : SrW w lo hi A2 n2 ws) (hi' : hi ≤ w.heap.size) (hn : n ≤ 1048576) (hn2 : n2 ≤ 1048576) (hk : k ≤ 1048576) :
    Calls Tryz.prog 23 #[.agg #[.slice A n c, .slice A2 n2 c2], .int .i64 k] w fun e w' => e = .returned (.int .i64 ((k + n + n2 * 2 : Nat) : Int)) ∧ SrS w' lo hi A n (markS k n) ∧ SrW w' lo hi A2 n2 (markW (k + n) n2) ∧ Rg lo hi w w' := by
  go_enter Tryz.func23, Tryz.ntmps23
  go_wp2_with fail
  have b0 := Box.new w 35 #[.slice A n c, .slice A2 n2 c2]
  have hnx0 := (Nx.refl w).alloc (.cells #[.slice A n c, .slice A2 n2 c2] 35)
  have HZ := Lib.hid (show (w.alloc (.cells #[.slice A n c, .slice A2 n2 c2] 35)).heap.size = w.heap.size + 1 by simp)
  generalize w.alloc (.cells #[.slice A n c, .slice A2 n2 c2] 35) = W at *
  refine (markStringS_c A n c k lo hi ss _ (h.nx hnx0) (by have := HZ.out; omega) hn (by omega)).mono ?_
  rintro e w1 ⟨rfl, hS1, hr1, ht1⟩
  have b1 := b0.rg hr1 (.inr hi')
  have c1 := b1.c1
  have c0 := b1.c0
  have hsz1 := hr1.size
  go_wp2_with fail
  rw [show ((k : Int) + (n : Int)) = ((k + n : Nat) : Int) from by omega]
  refine (markWriteS_c A2 n2 c2 (k + n) lo hi ws _ ((h2.nx hnx0).ty ht1) (by have := HZ.out; omega) hn2 (by omega)).mono ?_
  rintro e w2 ⟨rfl, hW2, hr2, ht2⟩
  go_wp2
  go_ret
  exact ⟨rfl, hS1.ty ht2, hW2, ((Rg.of_nx hnx0).trans hr1).trans hr2⟩

set_option maxHeartbeats 1000000 in
theorem heldDisk_c (A A2 : Option Addr) (n c n2 c2 k B : Nat) (w : World) (h : Strs w B A n (markS k n)) (h2 : Wrs w B A2 n2 (markW (k + n) n2)) (hB : B ≤ w.heap.size) (hn : n ≤ 1048576) (hn2 : n2 ≤ 1048576) (hk : k ≤ 1048576) :
    Calls Tryz.prog 28 #[.agg #[.slice A n c, .slice A2 n2 c2], .int .i64 k] w fun e w' => e = .returned (.int .i64 ((k + n + n2 * 2 : Nat) : Int)) ∧ Nx w w' := by
  go_enter Tryz.func28, Tryz.ntmps28
  go_wp2_with fail
  have b0 := Box.new w 35 #[.slice A n c, .slice A2 n2 c2]
  have hnx0 := (Nx.refl w).alloc (.cells #[.slice A n c, .slice A2 n2 c2] 35)
  generalize w.alloc (.cells #[.slice A n c, .slice A2 n2 c2] 35) = W at *
  refine (heldStringS_c A n c k B _ (h.below hnx0 hB) (Nat.le_trans hB hnx0.size) hn (by omega)).mono ?_
  rintro e w1 ⟨rfl, hnx1⟩
  have b1 := b0.nx hnx1
  have c1 := b1.c1
  have c0 := b1.c0
  have hx1 := hnx0.trans hnx1
  have hd : decide ((k : Int) + (n : Int) < 0) = false := by simp; omega
  go_wp2_with fail
  rw [show ((k : Int) + (n : Int)) = ((k + n : Nat) : Int) from by omega]
  refine (heldWriteS_c A2 n2 c2 (k + n) B _ (h2.below hx1 hB) (Nat.le_trans hB hx1.size) hn2 (by omega)).mono ?_
  rintro e w2 ⟨rfl, hnx2⟩
  have hd2 : decide ((((k + n + n2 * 2 : Nat) : Int)) < 0) = false := by simp; omega
  go_wp2
  go_ret
  exact ⟨by first | rfl | go_num, hx1.trans hnx2⟩
end Go.Proofs.YteckhdkghfidiaaGreatDoor
/- Contracts of the laws' functions that mark supers and ask whether the marks are still there. Conditions: numbers below 2^40. -/
namespace Go.Proofs.YteckhdkghfidiaaGreatDoor
set_option linter.unusedVariables false
set_option maxRecDepth 100000
open Go.RowKit

def markM (k n : Nat) : List Mrk := (List.range n).map (fun i => (mt (k + i * 2), ((k + i * 2 + 1 : Nat) : Int)))
theorem markM_len (k n : Nat) : (markM k n).length = n := by simp [markM]
theorem markM_at {k n i : Nat} (h : i < n) : (markM k n).getD i mrZ = (mt (k + i * 2), ((k + i * 2 + 1 : Nat) : Int)) := by
  unfold markM; rw [List.getD_eq_getElem?_getD, List.getElem?_map, List.getElem?_range h]; rfl
set_option maxHeartbeats 1000000 in
theorem markMarkS_c (A : Option Addr) (n c k lo hi : Nat) (f : Nat → Value) (w : World) (h : Sr w lo hi A 103 (n * 2) f) (hi' : hi ≤ w.heap.size) (hn : n ≤ 1048576) (hk : k ≤ 1099500000000) :
    Calls Tryz.prog 62 #[.slice A n c, .int .i64 k] w fun e w' => e = .returned (.int .i64 ((k + n * 2 : Nat) : Int)) ∧ Sr w' lo hi A 103 (n * 2) (mrAt (markM k n)) ∧ Rg lo hi w w' ∧ TyK 103 w w' := by
  have HS : FillA w lo hi A n 103 (n * 2) 0 (mrAt (markM k n)) := fun hn0 => by
    obtain ⟨g, e, h1, h2, ho⟩ := h (by omega)
    exact ⟨g, e, h1, h2, Fill.start ho⟩
  go_enter Tryz.func62, Tryz.ntmps62
  go_wp2
  go_loopw [1, 5] (fun q i wr => ∃ j : Nat, j ≤ n ∧ i = .int .i64 j ∧ q = .int .i64 ((k + j * 2 : Nat) : Int) ∧ FillA wr lo hi A n 103 (n * 2) (j * 2) (mrAt (markM k n)) ∧ Rg lo hi w wr ∧ TyK 103 w wr) (fun _ i _ => n - (intOf i).toNat)
  case atStart => exact ⟨0, Nat.zero_le _, rfl, rfl, HS, Rg.of_nx (Nx.refl _), TyK.refl _ _⟩
  case round =>
    obtain ⟨j, hj, rfl, rfl, hf, hrg, hty⟩ := hrel
    clear HS
    by_cases hlt : j < n
    · obtain ⟨g, rfl, hg1, hg2, hfill⟩ := hf (by omega)
      go_wp2_with fail
      refine (markText_c (k + j * 2) _ (by omega)).mono ?_
      rintro e w2 ⟨rfl, hnx2⟩
      have hf2 := hfill.nx hnx2
      obtain ⟨v0, hv0⟩ := hf2.some_ (i := j * 2) (by omega)
      obtain ⟨v1, hv1⟩ := hf2.some_ (i := j * 2 + 1) (by omega)
      have hz0 := hf2.frozen (j * 2)
      have hz1 := hf2.frozen (j * 2 + 1)
      have hs1 := hf2.step (v := .string (mt (k + j * 2))) (by omega) (by rw [mrAt0, markM_at hlt])
      have hs2 := hs1.step (v := .int .i64 ((k + j * 2 + 1 : Nat) : Int)) (by omega) (by rw [mrAt1, markM_at hlt])
      have hr2 := ((hrg.trans (Rg.of_nx hnx2)).setCell (p := ⟨g, j * 2, none⟩) hg1 hg2 (.string (mt (k + j * 2)))).setCell (p := ⟨g, j * 2 + 1, none⟩) hg1 hg2 (.int .i64 ((k + j * 2 + 1 : Nat) : Int))
      have ht2 := ((hty.nx hnx2).set_fill (i := j * 2) hf2 (.string (mt (k + j * 2)))).set_fill (i := j * 2 + 1) hs1 (.int .i64 ((k + j * 2 + 1 : Nat) : Int))
      have e1 : (((k + j * 2 + 1 : Nat) : Int)) = (k : Int) + (j : Int) * 2 + 1 := by omega
      rw [e1] at hs2 hr2 ht2
      clear e1
      go_wp2
      go_roundw
      case rel =>
        refine ⟨j + 1, by omega, by go_num, by go_num, fun _ => ⟨g, rfl, hg1, hg2, ?_⟩, ?_, ?_⟩
        · rw [show (j + 1) * 2 = j * 2 + 1 + 1 by omega]
          exact hs2
        · exact hr2
        · exact ht2
      case measure => simp [intOf]; omega
    · obtain rfl : j = n := by omega
      go_wp2
      go_ret
      refine ⟨rfl, fun hn0 => ?_, hrg, hty⟩
      obtain ⟨g, e, h1, h2, ho⟩ := hf (by omega)
      exact ⟨g, e, h1, h2, ho.done⟩
set_option maxHeartbeats 1000000 in
/-- The marks come behind the table, so their block is not the table's: it holds another type. -/
theorem markIntT_c (A : Option Addr) (n c k lo hi : Nat) (f : Nat → Value) (w : World) (h : Sr w lo hi A 3 n f) (hn : n ≤ 1048576) (hk : k ≤ 1048576) :
    Calls Tryz.prog 61 #[.slice A n c, .int .i64 k] w fun e w' => e = .returned (.int .i64 ((k + n : Nat) : Int)) ∧ Sr w' lo hi A 3 n (mkAt k) ∧ Rg lo hi w w' ∧ TyK 3 w w' := by
  have HS : FillI w lo hi A n 0 k := fun hn0 => by
    obtain ⟨g, e, h1, h2, ho⟩ := h (by omega)
    exact ⟨g, e, h1, h2, Fill.start ho⟩
  go_enter Tryz.func61, Tryz.ntmps61
  go_wp2
  go_loopw [1, 5] (fun q i wr => ∃ j : Nat, j ≤ n ∧ i = .int .i64 j ∧ q = .int .i64 ((k + j : Nat) : Int) ∧ FillI wr lo hi A n j k ∧ Rg lo hi w wr ∧ TyK 3 w wr) (fun _ i _ => n - (intOf i).toNat)
  case atStart => exact ⟨0, Nat.zero_le _, rfl, rfl, HS, Rg.of_nx (Nx.refl _), TyK.refl _ _⟩
  case round =>
    obtain ⟨j, hj, rfl, rfl, hf, hrg, hty⟩ := hrel
    clear HS
    by_cases hlt : j < n
    · obtain ⟨g, rfl, hg1, hg2, hfill⟩ := hf (by omega)
      obtain ⟨v0, hv0⟩ := hfill.some_ (i := j) (by omega)
      have hz0 := hfill.frozen j
      clear hf
      go_wp2
      go_roundw
      case rel => exact ⟨j + 1, by omega, by go_num, by go_num, fun _ => ⟨g, rfl, hg1, hg2, hfill.step hlt rfl⟩, hrg.setCell hg1 hg2 _, hty.set_fill hfill _⟩
      case measure => simp [intOf]; omega
    · obtain rfl : j = n := by omega
      go_wp2
      go_ret
      refine ⟨rfl, fun hn0 => ?_, hrg, hty⟩
      obtain ⟨g, e, h1, h2, ho⟩ := hf (by omega)
      exact ⟨g, e, h1, h2, ho.done⟩
set_option maxHeartbeats 1000000 in
theorem markSuper_c (g b p t : Int) (A A2 : Option Addr) (n c n2 c2 k lo hi : Nat) (f f2 : Nat → Value) (w : World) (h : Sr w lo hi A 3 n f) (h2 : Sr w lo hi A2 103 (n2 * 2) f2) (hi' : hi ≤ w.heap.size) (hn : n ≤ 1048576) (hn2 : n2 ≤ 1048576) (hk : k ≤ 1048576) :
    Calls Tryz.prog 24 #[.agg #[.int .i64 g, .int .i64 b, .int .i64 p, .int .i64 t, .slice A n c, .slice A2 n2 c2], .int .i64 k] w fun e w' => e = .returned (.int .i64 ((k + n + n2 * 2 : Nat) : Int)) ∧ Sr w' lo hi A 3 n (mkAt k) ∧ Sr w' lo hi A2 103 (n2 * 2) (mrAt (markM (k + n) n2)) ∧ Rg lo hi w w' := by
  go_enter Tryz.func24, Tryz.ntmps24
  go_wp2_with fail
  have b0 := Box.new w 26 #[.int .i64 g, .int .i64 b, .int .i64 p, .int .i64 t, .slice A n c, .slice A2 n2 c2]
  have hnx0 := (Nx.refl w).alloc (.cells #[.int .i64 g, .int .i64 b, .int .i64 p, .int .i64 t, .slice A n c, .slice A2 n2 c2] 26)
  have HZ := Lib.hid (show (w.alloc (.cells #[.int .i64 g, .int .i64 b, .int .i64 p, .int .i64 t, .slice A n c, .slice A2 n2 c2] 26)).heap.size = w.heap.size + 1 by simp)
  generalize w.alloc (.cells #[.int .i64 g, .int .i64 b, .int .i64 p, .int .i64 t, .slice A n c, .slice A2 n2 c2] 26) = W at *
  refine (markIntT_c A n c k lo hi f _ (h.nx hnx0) hn hk).mono ?_
  rintro e w1 ⟨rfl, hS1, hr1, ht1⟩
  have b1 := b0.rg hr1 (.inr hi')
  obtain ⟨_, _, _, _, c4, c5⟩ := b1.d6
  have hsz1 := hr1.size
  go_wp2_with fail
  rw [show ((k : Int) + (n : Int)) = ((k + n : Nat) : Int) from by omega]
  refine (markMarkS_c A2 n2 c2 (k + n) lo hi f2 _ ((h2.nx hnx0).ty ht1 (by decide)) (by have := HZ.out; omega) hn2 (by omega)).mono ?_
  rintro e w2 ⟨rfl, hW2, hr2, ht2⟩
  go_wp2
  go_ret
  exact ⟨rfl, hS1.ty ht2 (by decide), hW2, ((Rg.of_nx hnx0).trans hr1).trans hr2⟩
end Go.Proofs.YteckhdkghfidiaaGreatDoor
/- Contracts of the laws' functions that ask whether a super's marks are still there. Conditions: numbers below 2^40. -/
namespace Go.Proofs.YteckhdkghfidiaaGreatDoor
set_option linter.unusedVariables false
set_option maxRecDepth 100000
open Go.RowKit

set_option maxHeartbeats 1000000 in
theorem heldMarkS_c (A : Option Addr) (n c k B : Nat) (w : World) (h : Row w B A (n * 2) (mrAt (markM k n))) (hB : B ≤ w.heap.size) (hn : n ≤ 1048576) (hk : k ≤ 1099500000000) :
    Calls Tryz.prog 64 #[.slice A n c, .int .i64 k] w fun e w' => e = .returned (.int .i64 ((k + n * 2 : Nat) : Int)) ∧ Nx w w' := by
  go_enter Tryz.func64, Tryz.ntmps64
  go_wp2
  go_loopw [1, 5] (fun q i wr => ∃ j : Nat, j ≤ n ∧ i = .int .i64 j ∧ q = .int .i64 ((k + j * 2 : Nat) : Int) ∧ Nx w wr) (fun _ i _ => n - (intOf i).toNat)
  case atStart => exact ⟨0, Nat.zero_le _, rfl, rfl, Nx.refl _⟩
  case round =>
    obtain ⟨j, hj, rfl, rfl, hnx⟩ := hrel
    by_cases hlt : j < n
    · obtain ⟨b, off, rfl, hb, hrow⟩ := (h.below hnx hB) (by omega)
      have hc := hrow (j * 2) (by omega)
      have hd := hrow (j * 2 + 1) (by omega)
      rw [mrAt0, markM_at hlt] at hc
      rw [mrAt1, markM_at hlt, ← Nat.add_assoc] at hd
      dsimp only at hc hd
      have hbw : b < wr.heap.size := Nat.lt_of_lt_of_le (Nat.lt_of_lt_of_le hb hB) hnx.size
      obtain ⟨q, Hq⟩ : ∃ q, Hid (k + j * 2 = q) := ⟨_, rfl⟩
      have hq9 : q ≤ 1099511000000 := by have := Hq.out; omega
      rw [Hq.out] at hc hd ⊢
      have hd' : wr.cell? ⟨b, off + j * 2 + 1, none⟩ = some (.int .i64 ((q : Int) + 1)) := by rw [hd]; rfl
      replace hd := hd'
      clear hrow hd'
      go_wp2_with fail
      refine wp_region_lex [false, false, false, false, false, false, true, false] (fun w' => w'.cell? ⟨b, off + j * 2, none⟩ = some (.string (mt q))) (by kernel_rfl) (by kernel_rfl) rfl (by kernel_rfl) (fun _ _ d _ _ h => by cases d <;> exact h) (by exact hc) ?_
      repeat (first | (refine HL.take (v := ?_) (by rfl) ?_ ?_; rotate_left; (· (intro w hSw; (try dsimp only at hSw); go_simp; try with_reducible rfl)); (try simp only [Act.put, List.setIfInBounds_toArray, List.set_cons_zero, List.set_cons_succ])) | (refine HL.skip (by rfl) ?_; (try simp only [Act.put, List.setIfInBounds_toArray, List.set_cons_zero, List.set_cons_succ])))
      refine HL.call (by rfl) (fun K hK => ?_)
      go_simp
      refine (markText_c q _ (by omega)).mono ?_; rintro e w1 ⟨rfl, hnx1⟩; have k0 := ((Nx.drew_r hnx1).cell (p := ⟨b, off + j * 2, none⟩) hbw).trans hc; have k1 := ((Nx.drew_r hnx1).cell (p := ⟨b, off + j * 2 + 1, none⟩) hbw).trans hd
      go_wp2_with fail
      refine hK.out _ _ (by exact k0) ?_
      clear hK K
      try simp only [Act.put, List.setIfInBounds_toArray, List.set_cons_zero, List.set_cons_succ]
      repeat (first | (refine HL.take (v := ?_) (by rfl) ?_ ?_; rotate_left; (· (intro w hSw; (try dsimp only at hSw); go_simp; try with_reducible rfl)); (try simp only [Act.put, List.setIfInBounds_toArray, List.set_cons_zero, List.set_cons_succ])) | (refine HL.skip (by rfl) ?_; (try simp only [Act.put, List.setIfInBounds_toArray, List.set_cons_zero, List.set_cons_succ])))
      refine HL.done ?_
      clear hc hd
      go_wp2
      go_roundw
      case rel => exact ⟨j + 1, by omega, by go_num, by rw [show k + (j + 1) * 2 = q + 1 + 1 by have := Hq.out; omega]; go_num, hnx.trans (Nx.drew_r hnx1)⟩
      case measure => simp [intOf]; omega
    · obtain rfl : j = n := by omega
      go_wp2
      go_ret
      exact ⟨rfl, hnx⟩
set_option maxHeartbeats 1000000 in
theorem heldSuper_c (g b p t : Int) (A A2 : Option Addr) (n c n2 c2 k B : Nat) (w : World) (h : Row w B A n (mkAt k)) (h2 : Row w B A2 (n2 * 2) (mrAt (markM (k + n) n2))) (hB : B ≤ w.heap.size) (hn : n ≤ 1048576) (hn2 : n2 ≤ 1048576) (hk : k ≤ 1048576) :
    Calls Tryz.prog 25 #[.agg #[.int .i64 g, .int .i64 b, .int .i64 p, .int .i64 t, .slice A n c, .slice A2 n2 c2], .int .i64 k] w fun e w' => e = .returned (.int .i64 ((k + n + n2 * 2 : Nat) : Int)) ∧ Nx w w' := by
  go_enter Tryz.func25, Tryz.ntmps25
  go_wp2_with fail
  have b0 := Box.new w 26 #[.int .i64 g, .int .i64 b, .int .i64 p, .int .i64 t, .slice A n c, .slice A2 n2 c2]
  have hnx0 := (Nx.refl w).alloc (.cells #[.int .i64 g, .int .i64 b, .int .i64 p, .int .i64 t, .slice A n c, .slice A2 n2 c2] 26)
  generalize w.alloc (.cells #[.int .i64 g, .int .i64 b, .int .i64 p, .int .i64 t, .slice A n c, .slice A2 n2 c2] 26) = W at *
  refine (heldIntS_c A n c k B _ (h.below hnx0 hB) hn hk).mono ?_
  rintro e w1 ⟨rfl, rfl⟩
  obtain ⟨_, _, _, _, c4, c5⟩ := b0.d6
  have hd1 : decide (((k + n : Nat) : Int) < 0) = false := by simp; omega
  have hd2 : decide (((k + n + n2 * 2 : Nat) : Int) < 0) = false := by simp; omega
  obtain ⟨q, Hq⟩ : ∃ q, Hid (k + n = q) := ⟨_, rfl⟩
  have hq9 : q ≤ 3000000 := by have := Hq.out; omega
  rw [Hq.out] at hd1 h2 hd2 ⊢
  go_wp2_with fail
  refine (heldMarkS_c A2 n2 c2 q B _ (h2.below hnx0 hB) (Nat.le_trans hB hnx0.size) hn2 (by omega)).mono ?_
  rintro e w2 ⟨rfl, hnx2⟩
  obtain ⟨r, Hr⟩ : ∃ r, Hid (q + n2 * 2 = r) := ⟨_, rfl⟩
  rw [Hr.out] at hd2 ⊢
  go_wp2
  go_ret
  exact ⟨ret_int (by have := Hr.out; have := Hq.out; omega), hnx0.trans hnx2⟩
end Go.Proofs.YteckhdkghfidiaaGreatDoor
