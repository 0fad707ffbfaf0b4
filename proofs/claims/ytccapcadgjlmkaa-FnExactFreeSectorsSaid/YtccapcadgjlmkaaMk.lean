/-
  Contracts of the laws' functions that mark disks and ask whether the marks are still there.
  Conditions: numbers below 2^40.
-/
import Derived.Test.YtccapcadgjlmkaaBase
import Derived.StillTailTactics
import Derived.Deep.RegionHeld3
import Derived.Laws.BytesArg
import Derived.Outline
namespace Go.Proofs.Ytccapcadgjlmkaa
set_option linter.unusedVariables false
open Go.RowKit

/-- The text of one digit. -/
def dg (k : Nat) : ByteArray := strOfNums [48 + (k : Int) % 10]
theorem dg_size (k : Nat) : (dg k).size = 1 := by simp [dg, strOfNums, ByteArray.size]
def mtL (k : Nat) (o : ByteArray) : ByteArray := if h : k = 0 then o else mtL (k / 10) (dg k ++ o)
termination_by k
decreasing_by omega
theorem mtL_zero (o : ByteArray) : mtL 0 o = o := by rw [mtL]; simp
theorem mtL_pos (k : Nat) (o : ByteArray) (h : 0 < k) : mtL k o = mtL (k / 10) (dg k ++ o) := by rw [mtL, dif_neg (by omega)]
/-- The mark of a number. -/
def mt (k : Nat) : ByteArray := if k = 0 then ⟨#[109, 48]⟩ else ⟨#[109]⟩ ++ mtL k ⟨#[]⟩
def MtTo (K k : Nat) (o : ByteArray) : Prop := mtL K ⟨#[]⟩ = mtL k o

theorem MtTo.next_ {K k : Nat} {o : ByteArray} (h : MtTo K k o) (hp : 0 < k) : MtTo K (k / 10) (dg k ++ o) := by
  unfold MtTo at h ⊢; rw [h, mtL_pos k o hp]
theorem MtTo.done {K : Nat} {o : ByteArray} (h : MtTo K 0 o) (hK : 0 < K) : ⟨#[109]⟩ ++ o = mt K := by
  unfold MtTo at h
  unfold mt
  rw [if_neg (by omega), h, mtL_zero]
theorem ret_str' {a b : ByteArray} (h : a = b) : Ending.returned (.string a) = .returned (.string b) := by rw [h]
theorem conv_one (x : Int) (W : World) : (convert 22 9 (.slice (some ⟨W.heap.size, 0, none⟩) 1 1)).run Try.prog (W.alloc (.cells #[.int .u8 x] 5)) = .ok (.string (strOfNums [x])) (W.alloc (.cells #[.int .u8 x] 5)) :=
  run_convert_bytes_arg _ 22 5 Try.underlying22 Try.underlying5 W.heap.size 0 1 1 [x] rfl (fun i hi => by
    obtain rfl : i = 0 := by omega
    exact (Box.new W 5 #[.int .u8 x]).cell 0) 9 Try.underlying9

set_option maxHeartbeats 1000000 in
theorem markText_c (k : Nat) (w : World) (hk : k ≤ 1099511627776) : Calls Try.prog 96 #[.int .i64 k] w fun e w' => e = .returned (.string (mt k)) ∧ Nx w w' := by
  rcases Nat.eq_zero_or_pos k with hz | hp
  · subst hz
    go_enter Try.func96, Try.ntmps96
    go_wp2
    go_ret
    exact ⟨rfl, Nx.refl _⟩
  have hd : decide ((k : Int) ≤ 0) = false := by simp; omega
  have hd0 : decide (k = 0) = false := by simp; omega
  go_enter Try.func96, Try.ntmps96
  go_wp2
  go_loopw [0, 3] (fun i o wr => ∃ (j : Nat) (s : ByteArray), j ≤ k ∧ i = .int .i64 j ∧ o = .string s ∧ s.size + j ≤ k ∧ MtTo k j s ∧ Nx w wr) (fun i _ _ => (intOf i).toNat)
  case atStart => exact ⟨k, ⟨#[]⟩, Nat.le_refl _, rfl, rfl, by show 0 + k ≤ k; omega, rfl, Nx.refl _⟩
  case round =>
    obtain ⟨j, s, hj, rfl, rfl, hs, hto, hnx⟩ := hrel
    rcases Nat.eq_zero_or_pos j with hz | hp2
    · subst hz
      have HF := Lib.hid (hto.done hp)
      go_wp2
      go_ret
      exact ⟨ret_str' HF.out, hnx⟩
    · have hd2 : decide (0 < (j : Int)) = true := by simp; omega
      have hcv := conv_one (48 + (j : Int) % 10) wr
      have HF := Lib.hid (hto.next_ hp2)
      rw [show strOfNums [48 + (j : Int) % 10] = dg j from rfl] at hcv
      have HZ := Lib.hid (dg_size j)
      have hz1 : (dg j).size ≤ 1 := by rw [HZ.out]; omega
      generalize dg j = g at *
      go_wp2
      go_roundw
      case rel => exact ⟨j / 10, g ++ s, by omega, by go_num, rfl, by rw [ByteArray.size_append]; have := HZ.out; omega, HF.out, hnx.alloc _⟩
      case measure => simp [intOf]; omega

def markS (k n : Nat) : List ByteArray := (List.range n).map (fun i => mt (k + i))
def markW (k n : Nat) : List (Int × ByteArray) := (List.range n).map (fun i => (((k + i * 2 : Nat) : Int), mt (k + i * 2 + 1)))
theorem markS_len (k n : Nat) : (markS k n).length = n := by simp [markS]
theorem markW_len (k n : Nat) : (markW k n).length = n := by simp [markW]
theorem markS_at {k n i : Nat} (h : i < n) : (markS k n).getD i ByteArray.empty = mt (k + i) := by
  unfold markS; rw [List.getD_eq_getElem?_getD, List.getElem?_map, List.getElem?_range h]; rfl
theorem markW_at {k n i : Nat} (h : i < n) : (markW k n).getD i (0, ByteArray.empty) = (((k + i * 2 : Nat) : Int), mt (k + i * 2 + 1)) := by
  unfold markW; rw [List.getD_eq_getElem?_getD, List.getElem?_map, List.getElem?_range h]; rfl
/-- A slice that is being filled with marks. -/
def FillA (w : World) (lo hi : Nat) (A : Option Addr) (n : Nat) (t : TypeId) (m k : Nat) (F : Nat → Value) : Prop := 0 < n → ∃ g, A = some ⟨g, 0, none⟩ ∧ lo ≤ g ∧ g < hi ∧ Fill w g t m k F

set_option maxHeartbeats 1000000 in
theorem markStringS_c (A : Option Addr) (n c k lo hi : Nat) (ss : List ByteArray) (w : World) (h : SrS w lo hi A n ss) (hi' : hi ≤ w.heap.size) (hn : n ≤ 1048576) (hk : k ≤ 1099510579200) :
    Calls Try.prog 67 #[.slice A n c, .int .i64 k] w fun e w' => e = .returned (.int .i64 ((k + n : Nat) : Int)) ∧ SrS w' lo hi A n (markS k n) ∧ Rg lo hi w w' ∧ TyK 9 w w' := by
  have HS : FillA w lo hi A n 9 n 0 (strAt (markS k n)) := fun hn0 => by
    obtain ⟨g, e, h1, h2, ho⟩ := h.2 hn0
    unfold OwnS at ho
    rw [h.1] at ho
    exact ⟨g, e, h1, h2, Fill.start ho⟩
  go_enter Try.func67, Try.ntmps67
  go_wp2
  go_loopw [1, 5] (fun q i wr => ∃ j : Nat, j ≤ n ∧ i = .int .i64 j ∧ q = .int .i64 ((k + j : Nat) : Int) ∧ FillA wr lo hi A n 9 n j (strAt (markS k n)) ∧ Rg lo hi w wr ∧ TyK 9 w wr) (fun _ i _ => n - (intOf i).toNat)
  case atStart => exact ⟨0, Nat.zero_le _, rfl, rfl, HS, Rg.of_nx (Nx.refl _), TyK.refl _ _⟩
  case round =>
    obtain ⟨j, hj, rfl, rfl, hf, hrg, hty⟩ := hrel
    clear HS
    by_cases hlt : j < n
    · obtain ⟨g, rfl, hg1, hg2, hfill⟩ := hf (by omega)
      go_wp2_with fail
      refine (markText_c (k + j) _ (by omega)).mono ?_
      rintro e w1 ⟨rfl, hnx1⟩
      have hf1 := hfill.nx hnx1
      obtain ⟨v, hv⟩ := hf1.some_ hlt
      have hz := hf1.frozen j
      go_wp2
      go_roundw
      case rel =>
        refine ⟨j + 1, by omega, by go_num, by go_num, fun _ => ⟨g, rfl, hg1, hg2, hf1.step hlt ?_⟩, (hrg.trans (Rg.of_nx hnx1)).setCell hg1 hg2 _, (hty.nx hnx1).set_fill hf1 _⟩
        unfold strAt; rw [markS_at hlt]
      case measure => simp [intOf]; omega
    · obtain rfl : j = n := by omega
      go_wp2
      go_ret
      refine ⟨rfl, ⟨markS_len _ _, fun hn0 => ?_⟩, hrg, hty⟩
      obtain ⟨g, e, h1, h2, ho⟩ := hf hn0
      refine ⟨g, e, h1, h2, ?_⟩
      unfold OwnS
      rw [markS_len]
      exact ho.done

set_option maxHeartbeats 1000000 in
theorem markWriteS_c (A : Option Addr) (n c k lo hi : Nat) (ws : List (Int × ByteArray)) (w : World) (h : SrW w lo hi A n ws) (hi' : hi ≤ w.heap.size) (hn : n ≤ 1048576) (hk : k ≤ 1099500000000) :
    Calls Try.prog 68 #[.slice A n c, .int .i64 k] w fun e w' => e = .returned (.int .i64 ((k + n * 2 : Nat) : Int)) ∧ SrW w' lo hi A n (markW k n) ∧ Rg lo hi w w' ∧ TyK 80 w w' := by
  have HS : FillA w lo hi A n 80 (n * 2) 0 (wrAt (markW k n)) := fun hn0 => by
    obtain ⟨g, e, h1, h2, ho⟩ := h.2 hn0
    unfold OwnW at ho
    rw [h.1] at ho
    exact ⟨g, e, h1, h2, Fill.start ho⟩
  go_enter Try.func68, Try.ntmps68
  go_wp2
  go_loopw [1, 5] (fun q i wr => ∃ j : Nat, j ≤ n ∧ i = .int .i64 j ∧ q = .int .i64 ((k + j * 2 : Nat) : Int) ∧ FillA wr lo hi A n 80 (n * 2) (j * 2) (wrAt (markW k n)) ∧ Rg lo hi w wr ∧ TyK 80 w wr) (fun _ i _ => n - (intOf i).toNat)
  case atStart => exact ⟨0, Nat.zero_le _, rfl, rfl, HS, Rg.of_nx (Nx.refl _), TyK.refl _ _⟩
  case round =>
    obtain ⟨j, hj, rfl, rfl, hf, hrg, hty⟩ := hrel
    clear HS
    by_cases hlt : j < n
    · obtain ⟨g, rfl, hg1, hg2, hfill⟩ := hf (by omega)
      have hs1 := hfill.step (v := .int .i64 ((k : Int) + (j : Int) * 2)) (by omega) (by rw [wrAt_even, markW_at hlt]; go_num)
      obtain ⟨v0, hv0⟩ := hfill.some_ (i := j * 2) (by omega)
      have hz0 := hfill.frozen (j * 2)
      go_wp2_with fail
      have hr1 := hrg.setCell (p := ⟨g, j * 2, none⟩) hg1 hg2 (.int .i64 ((k : Int) + (j : Int) * 2))
      have ht1 := hty.set_fill (i := j * 2) hfill (.int .i64 ((k : Int) + (j : Int) * 2))
      generalize wr.setCell ⟨g, j * 2, none⟩ (.int .i64 ((k : Int) + (j : Int) * 2)) = w1 at *
      clear hv0 hz0 hfill
      rw [show ((k : Int) + (j : Int) * 2 + 1) = ((k + j * 2 + 1 : Nat) : Int) from by omega]
      refine (markText_c (k + j * 2 + 1) _ (by omega)).mono ?_
      rintro e w2 ⟨rfl, hnx2⟩
      have hf2 := hs1.nx hnx2
      obtain ⟨v1, hv1⟩ := hf2.some_ (i := j * 2 + 1) (by omega)
      have hz1 := hf2.frozen (j * 2 + 1)
      go_wp2
      go_roundw
      case rel =>
        refine ⟨j + 1, by omega, by go_num, by go_num, fun _ => ⟨g, rfl, hg1, hg2, ?_⟩, (hr1.trans (Rg.of_nx hnx2)).setCell hg1 hg2 _, (ht1.nx hnx2).set_fill hf2 _⟩
        rw [show (j + 1) * 2 = j * 2 + 1 + 1 by omega]
        exact hf2.step (by omega) (by rw [wrAt_odd, markW_at hlt])
      case measure => simp [intOf]; omega
    · obtain rfl : j = n := by omega
      go_wp2
      go_ret
      refine ⟨rfl, ⟨markW_len _ _, fun hn0 => ?_⟩, hrg, hty⟩
      obtain ⟨g, e, h1, h2, ho⟩ := hf hn0
      refine ⟨g, e, h1, h2, ?_⟩
      unfold OwnW
      rw [markW_len]
      exact ho.done

set_option maxHeartbeats 1000000 in
theorem heldStringS_c (A : Option Addr) (n c k B : Nat) (w : World) (h : Strs w B A n (markS k n)) (hB : B ≤ w.heap.size) (hn : n ≤ 1048576) (hk : k ≤ 1099510579200) :
    Calls Try.prog 69 #[.slice A n c, .int .i64 k] w fun e w' => e = .returned (.int .i64 ((k + n : Nat) : Int)) ∧ Nx w w' := by
  go_enter Try.func69, Try.ntmps69
  go_wp2
  go_loopw [1, 5] (fun q i wr => ∃ j : Nat, j ≤ n ∧ i = .int .i64 j ∧ q = .int .i64 ((k + j : Nat) : Int) ∧ Nx w wr) (fun _ i _ => n - (intOf i).toNat)
  case atStart => exact ⟨0, Nat.zero_le _, rfl, rfl, Nx.refl _⟩
  case round =>
    obtain ⟨j, hj, rfl, rfl, hnx⟩ := hrel
    by_cases hlt : j < n
    · have hnd : Nx w wr.drew := hnx.drew
      obtain ⟨b, off, rfl, hb, hc⟩ := (h.below hnd hB).at_ hlt
      rw [markS_at hlt] at hc
      have hbw : b < wr.drew.heap.size := Nat.lt_of_lt_of_le (Nat.lt_of_lt_of_le hb hB) hnd.size
      go_wp2_with fail
      go_region_held3 (fun w' => w'.cell? ⟨b, off + j, none⟩ = some (.string (mt (k + j)))) (first | exact hc | exact k0)
        (first | (go_at_call 96; refine (markText_c (k + j) _ (by omega)).mono ?_; rintro e w1 ⟨rfl, hnx1⟩; have k0 := (hnx1.cell (p := ⟨b, off + j, none⟩) hbw).trans hc))
      go_wp2
      go_roundw
      case rel => exact ⟨j + 1, by omega, by go_num, by go_num, hnd.trans hnx1⟩
      case measure => simp [intOf]; omega
    · obtain rfl : j = n := by omega
      go_wp2
      go_ret
      exact ⟨rfl, hnx⟩

set_option maxHeartbeats 1000000 in
theorem heldWriteS_c (A : Option Addr) (n c k B : Nat) (w : World) (h : Wrs w B A n (markW k n)) (hB : B ≤ w.heap.size) (hn : n ≤ 1048576) (hk : k ≤ 1099500000000) :
    Calls Try.prog 70 #[.slice A n c, .int .i64 k] w fun e w' => e = .returned (.int .i64 ((k + n * 2 : Nat) : Int)) ∧ Nx w w' := by
  go_enter Try.func70, Try.ntmps70
  go_wp2
  go_loopw [1, 5] (fun q i wr => ∃ j : Nat, j ≤ n ∧ i = .int .i64 j ∧ q = .int .i64 ((k + j * 2 : Nat) : Int) ∧ Nx w wr) (fun _ i _ => n - (intOf i).toNat)
  case atStart => exact ⟨0, Nat.zero_le _, rfl, rfl, Nx.refl _⟩
  case round =>
    obtain ⟨j, hj, rfl, rfl, hnx⟩ := hrel
    by_cases hlt : j < n
    · have hnd : Nx w wr.drew := hnx.drew
      obtain ⟨b, off, rfl, hb, hc, hd⟩ := (h.below hnd hB).at_ hlt
      rw [markW_at hlt] at hc hd
      have hc' : wr.cell? ⟨b, off + j * 2, none⟩ = some (.int .i64 ((k : Int) + (j : Int) * 2)) := by
        have e : (((k + j * 2 : Nat) : Int)) = (k : Int) + (j : Int) * 2 := by omega
        rw [← e]; exact hc
      clear hc
      have hbw : b < wr.drew.heap.size := Nat.lt_of_lt_of_le (Nat.lt_of_lt_of_le hb hB) hnd.size
      rw [show (((k + j * 2 : Nat) : Int)) = (k : Int) + (j : Int) * 2 from by omega]
      dsimp only at hd
      go_wp2_with fail
      go_region_held3 (fun w' => w'.cell? ⟨b, off + j * 2 + 1, none⟩ = some (.string (mt (k + j * 2 + 1)))) (first | exact hd | exact k0)
        (first | (go_at_call 96; rw [show ((k : Int) + (j : Int) * 2 + 1) = ((k + j * 2 + 1 : Nat) : Int) from by omega]; refine (markText_c (k + j * 2 + 1) _ (by omega)).mono ?_; rintro e w1 ⟨rfl, hnx1⟩; have k0 := (hnx1.cell (p := ⟨b, off + j * 2 + 1, none⟩) hbw).trans hd))
      go_wp2
      go_roundw
      case rel => exact ⟨j + 1, by omega, by go_num, by go_num, hnd.trans hnx1⟩
      case measure => simp [intOf]; omega
    · obtain rfl : j = n := by omega
      go_wp2
      go_ret
      exact ⟨rfl, hnx⟩

set_option maxHeartbeats 1000000 in
theorem markDisk_c (A A2 : Option Addr) (n c n2 c2 k lo hi : Nat) (ss : List ByteArray) (ws : List (Int × ByteArray)) (w : World) (h : SrS w lo hi A n ss) (h2 : SrW w lo hi A2 n2 ws) (hi' : hi ≤ w.heap.size) (hn : n ≤ 1048576) (hn2 : n2 ≤ 1048576) (hk : k ≤ 1048576) :
    Calls Try.prog 31 #[.agg #[.slice A n c, .slice A2 n2 c2], .int .i64 k] w fun e w' => e = .returned (.int .i64 ((k + n + n2 * 2 : Nat) : Int)) ∧ SrS w' lo hi A n (markS k n) ∧ SrW w' lo hi A2 n2 (markW (k + n) n2) ∧ Rg lo hi w w' := by
  go_enter Try.func31, Try.ntmps31
  go_wp2_with fail
  have b0 := Box.new w 26 #[.slice A n c, .slice A2 n2 c2]
  have hnx0 := (Nx.refl w).alloc (.cells #[.slice A n c, .slice A2 n2 c2] 26)
  have HZ := Lib.hid (show (w.alloc (.cells #[.slice A n c, .slice A2 n2 c2] 26)).heap.size = w.heap.size + 1 by simp)
  generalize w.alloc (.cells #[.slice A n c, .slice A2 n2 c2] 26) = W at *
  refine (markStringS_c A n c k lo hi ss _ (h.nx hnx0) (by have := HZ.out; omega) hn (by omega)).mono ?_
  rintro e w1 ⟨rfl, hS1, hr1, ht1⟩
  have b1 := b0.rg hr1 (.inr hi')
  have c1 := b1.c1
  have c0 := b1.c0
  have hsz1 := hr1.size
  go_wp2_with fail
  rw [show ((k : Int) + (n : Int)) = ((k + n : Nat) : Int) from by omega]
  refine (markWriteS_c A2 n2 c2 (k + n) lo hi ws _ ((h2.nx hnx0).ty ht1) (by have := HZ.out; omega) hn2 (by omega)).mono ?_
  rintro e w2 ⟨rfl, hW2, hr2, ht2⟩
  go_wp2
  go_ret
  exact ⟨rfl, hS1.ty ht2, hW2, ((Rg.of_nx hnx0).trans hr1).trans hr2⟩

set_option maxHeartbeats 1000000 in
theorem heldDisk_c (A A2 : Option Addr) (n c n2 c2 k B : Nat) (w : World) (h : Strs w B A n (markS k n)) (h2 : Wrs w B A2 n2 (markW (k + n) n2)) (hB : B ≤ w.heap.size) (hn : n ≤ 1048576) (hn2 : n2 ≤ 1048576) (hk : k ≤ 1048576) :
    Calls Try.prog 32 #[.agg #[.slice A n c, .slice A2 n2 c2], .int .i64 k] w fun e w' => e = .returned (.int .i64 ((k + n + n2 * 2 : Nat) : Int)) ∧ Nx w w' := by
  go_enter Try.func32, Try.ntmps32
  go_wp2_with fail
  have b0 := Box.new w 26 #[.slice A n c, .slice A2 n2 c2]
  have hnx0 := (Nx.refl w).alloc (.cells #[.slice A n c, .slice A2 n2 c2] 26)
  generalize w.alloc (.cells #[.slice A n c, .slice A2 n2 c2] 26) = W at *
  refine (heldStringS_c A n c k B _ (h.below hnx0 hB) (Nat.le_trans hB hnx0.size) hn (by omega)).mono ?_
  rintro e w1 ⟨rfl, hnx1⟩
  have b1 := b0.nx hnx1
  have c1 := b1.c1
  have c0 := b1.c0
  have hx1 := hnx0.trans hnx1
  have hd : decide ((k : Int) + (n : Int) < 0) = false := by simp; omega
  go_wp2_with fail
  rw [show ((k : Int) + (n : Int)) = ((k + n : Nat) : Int) from by omega]
  refine (heldWriteS_c A2 n2 c2 (k + n) B _ (h2.below hx1 hB) (Nat.le_trans hB hx1.size) hn2 (by omega)).mono ?_
  rintro e w2 ⟨rfl, hnx2⟩
  have hd2 : decide ((((k + n + n2 * 2 : Nat) : Int)) < 0) = false := by simp; omega
  go_wp2
  go_ret
  exact ⟨by first | rfl | go_num, hx1.trans hnx2⟩
end Go.Proofs.Ytccapcadgjlmkaa
