/-
  Texts of the proof, put together in their order: Eq, Mk, Nd, Frm.
  Conditions: those of each.
-/
import Derived.Test.YtehahodomfbpjaaDoorMf0
import Derived.Deep.QuietTactic
import Derived.BigQuiet
import Derived.StillTailTactics
import Derived.Outline
import Derived.Deep.RegionHeld3
import Derived.Laws.BytesArg
/- Contracts of the laws' functions that compare disks, where both sides hold the same. Conditions: both sides can be read and are alike. -/
namespace Go.Proofs.YtehahodomfbpjaaDoor
set_option linter.unusedVariables false
set_option maxRecDepth 100000
open Go.RowKit

set_option maxRecDepth 100000 in
set_option maxHeartbeats 1000000 in
theorem eqStringS_c (A A2 : Option Addr) (n c c2 B : Nat) (ss : List ByteArray) (w : World) (h : Strs w B A n ss) (h2 : Strs w B A2 n ss) (hB : B ≤ w.heap.size) (hn : n ≤ 1048576) :
    Calls Tryd.prog 36 #[.slice A n c, .slice A2 n c2] w fun e w' => e = .returned (.bool true) ∧ Nx w w' := by
  go_enter Tryd.func36, Tryd.ntmps36
  go_wp2
  go_loopw [5] (fun i wr => ∃ k : Nat, k ≤ n ∧ i = .int .i64 k ∧ Nx w wr) (fun i _ => n - (intOf i).toNat)
  case atStart => exact ⟨0, Nat.zero_le _, rfl, Nx.refl _⟩
  case round =>
    obtain ⟨k, hk, rfl, hnx⟩ := hrel
    by_cases hlt : k < n
    · obtain ⟨b, off, rfl, hb, hc⟩ := (h.below hnx hB).at_ hlt
      obtain ⟨b2, off2, rfl, hb2, hc2⟩ := (h2.below hnx hB).at_ hlt
      generalize ss.getD k ByteArray.empty = s at hc hc2
      go_wp2
      go_quiet (fail)
      go_wp2
      go_roundw
      case rel => exact ⟨k + 1, by omega, by go_num, hnx.drewN _⟩
      case measure => simp [intOf]; omega
    · go_wp2
      go_ret
      exact ⟨rfl, hnx⟩

set_option maxRecDepth 100000 in
set_option maxHeartbeats 1000000 in
theorem eqWrite_c (a : Int) (s : ByteArray) (w : World) :
    Calls Tryd.prog 65 #[.agg #[.int .i64 a, .string s], .agg #[.int .i64 a, .string s]] w fun e w' => e = .returned (.bool true) ∧ Nx w w' := by
  go_enter Tryd.func65, Tryd.ntmps65
  go_wp2
  go_ret
  exact ⟨rfl, (((Nx.refl _).alloc _).alloc _)⟩

set_option maxRecDepth 100000 in
set_option maxHeartbeats 1000000 in
theorem eqWriteS_c (A A2 : Option Addr) (n c c2 B : Nat) (ws : List (Int × ByteArray)) (w : World) (h : Wrs w B A n ws) (h2 : Wrs w B A2 n ws) (hB : B ≤ w.heap.size) (hn : n ≤ 1048576) :
    Calls Tryd.prog 37 #[.slice A n c, .slice A2 n c2] w fun e w' => e = .returned (.bool true) ∧ Nx w w' := by
  go_enter Tryd.func37, Tryd.ntmps37
  go_wp2
  go_loopw [5] (fun i wr => ∃ k : Nat, k ≤ n ∧ i = .int .i64 k ∧ Nx w wr) (fun i _ => n - (intOf i).toNat)
  case atStart => exact ⟨0, Nat.zero_le _, rfl, Nx.refl _⟩
  case round =>
    obtain ⟨k, hk, rfl, hnx⟩ := hrel
    by_cases hlt : k < n
    · obtain ⟨b, off, rfl, hb, hc, hd⟩ := (h.below hnx hB).at_ hlt
      obtain ⟨b2, off2, rfl, hb2, hc2, hd2⟩ := (h2.below hnx hB).at_ hlt
      generalize ws.getD k (0, ByteArray.empty) = s at hc hc2 hd hd2
      obtain ⟨a, s⟩ := s
      go_wp2_with fail
      go_still_tail 8, (by kernel_rfl)
      change wpList _ _ _ _ _ wr.drew
      have hnx1 : Nx w wr.drew := Below.drew hnx
      generalize wr.drew = wd at *
      go_wp2_with fail
      refine (eqWrite_c a s _).mono ?_
      rintro e w1 ⟨rfl, hnx2⟩
      go_wp2
      go_roundw
      case rel => exact ⟨k + 1, by omega, by go_num, hnx1.trans hnx2⟩
      case measure => simp [intOf]; omega
    · go_wp2
      go_ret
      exact ⟨rfl, hnx⟩

set_option maxRecDepth 100000 in
set_option maxHeartbeats 1000000 in
theorem eqDisk_c (A A2 A3 A4 : Option Addr) (n c c3 n2 c2 c4 B : Nat) (ss : List ByteArray) (ws : List (Int × ByteArray)) (w : World) (h : Strs w B A n ss) (h3 : Strs w B A3 n ss) (h2 : Wrs w B A2 n2 ws) (h4 : Wrs w B A4 n2 ws)
    (hB : B ≤ w.heap.size) (hn : n ≤ 1048576) (hn2 : n2 ≤ 1048576) :
    Calls Tryd.prog 8 #[.agg #[.slice A n c, .slice A2 n2 c2], .agg #[.slice A3 n c3, .slice A4 n2 c4]] w fun e w' => e = .returned (.bool true) ∧ Nx w w' := by
  go_enter Tryd.func8, Tryd.ntmps8
  go_wp2_with fail
  have b0 := (Box.new w 26 #[.slice A n c, .slice A2 n2 c2]).alloc (.cells #[.slice A3 n c3, .slice A4 n2 c4] 26)
  have b1 := Box.new (w.alloc (.cells #[.slice A n c, .slice A2 n2 c2] 26)) 26 #[.slice A3 n c3, .slice A4 n2 c4]
  have hnx0 := ((Nx.refl w).alloc (.cells #[.slice A n c, .slice A2 n2 c2] 26)).alloc (.cells #[.slice A3 n c3, .slice A4 n2 c4] 26)
  simp only [World.size_alloc] at b1
  generalize ((w.alloc (.cells #[.slice A n c, .slice A2 n2 c2] 26)).alloc (.cells #[.slice A3 n c3, .slice A4 n2 c4] 26)) = W at *
  refine (eqStringS_c A A3 n c c3 B ss _ (h.below hnx0 hB) (h3.below hnx0 hB) (Nat.le_trans hB hnx0.size) hn).mono ?_
  rintro e w1 ⟨rfl, hnx1⟩
  have b0' := b0.nx hnx1
  have b1' := b1.nx hnx1
  have c00 := b0'.c0
  have c01 := b0'.c1
  have c10 := b1'.c0
  have c11 := b1'.c1
  have hnx2 := hnx0.trans hnx1
  go_wp2_with fail
  refine (eqWriteS_c A2 A4 n2 c2 c4 B ws _ (h2.below hnx2 hB) (h4.below hnx2 hB) (Nat.le_trans hB hnx2.size) hn2).mono ?_
  rintro e w2 ⟨rfl, hnx3⟩
  go_wp2
  go_ret
  exact ⟨rfl, hnx2.trans hnx3⟩
end Go.Proofs.YtehahodomfbpjaaDoor
/- Contracts of the laws' functions that mark disks and ask whether the marks are still there. Conditions: numbers below 2^40. -/
namespace Go.Proofs.YtehahodomfbpjaaDoor
set_option linter.unusedVariables false
set_option maxRecDepth 100000
open Go.RowKit

/-- The text of one digit. -/
def dg (k : Nat) : ByteArray := strOfNums [48 + (k : Int) % 10]
theorem dg_size (k : Nat) : (dg k).size = 1 := by simp [dg, strOfNums, ByteArray.size]
def mtL (k : Nat) (o : ByteArray) : ByteArray := if h : k = 0 then o else mtL (k / 10) (dg k ++ o)
termination_by k
decreasing_by omega
theorem mtL_zero (o : ByteArray) : mtL 0 o = o := by rw [mtL]; simp
theorem mtL_pos (k : Nat) (o : ByteArray) (h : 0 < k) : mtL k o = mtL (k / 10) (dg k ++ o) := by rw [mtL, dif_neg (by omega)]
/-- The mark of a number. -/
def mt (k : Nat) : ByteArray := if k = 0 then ⟨#[109, 48]⟩ else ⟨#[109]⟩ ++ mtL k ⟨#[]⟩
def MtTo (K k : Nat) (o : ByteArray) : Prop := mtL K ⟨#[]⟩ = mtL k o

theorem MtTo.next_ {K k : Nat} {o : ByteArray} (h : MtTo K k o) (hp : 0 < k) : MtTo K (k / 10) (dg k ++ o) := by
  unfold MtTo at h ⊢; rw [h, mtL_pos k o hp]
theorem MtTo.done {K : Nat} {o : ByteArray} (h : MtTo K 0 o) (hK : 0 < K) : ⟨#[109]⟩ ++ o = mt K := by
  unfold MtTo at h
  unfold mt
  rw [if_neg (by omega), h, mtL_zero]
theorem ret_str' {a b : ByteArray} (h : a = b) : Ending.returned (.string a) = .returned (.string b) := by rw [h]
theorem conv_one (x : Int) (W : World) : (convert 35 9 (.slice (some ⟨W.heap.size, 0, none⟩) 1 1)).run Tryd.prog (W.alloc (.cells #[.int .u8 x] 5)) = .ok (.string (strOfNums [x])) (W.alloc (.cells #[.int .u8 x] 5)) :=
  run_convert_bytes_arg _ 35 5 Tryd.underlying35 Tryd.underlying5 W.heap.size 0 1 1 [x] rfl (fun i hi => by
    obtain rfl : i = 0 := by omega
    exact (Box.new W 5 #[.int .u8 x]).cell 0) 9 Tryd.underlying9

set_option maxHeartbeats 1000000 in
theorem markText_c (k : Nat) (w : World) (hk : k ≤ 1099511627776) : Calls Tryd.prog 66 #[.int .i64 k] w fun e w' => e = .returned (.string (mt k)) ∧ Nx w w' := by
  rcases Nat.eq_zero_or_pos k with hz | hp
  · subst hz
    go_enter Tryd.func66, Tryd.ntmps66
    go_wp2
    go_ret
    exact ⟨rfl, Nx.refl _⟩
  have hd : decide ((k : Int) ≤ 0) = false := by simp; omega
  have hd0 : decide (k = 0) = false := by simp; omega
  go_enter Tryd.func66, Tryd.ntmps66
  go_wp2
  go_loopw [0, 3] (fun i o wr => ∃ (j : Nat) (s : ByteArray), j ≤ k ∧ i = .int .i64 j ∧ o = .string s ∧ s.size + j ≤ k ∧ MtTo k j s ∧ Nx w wr) (fun i _ _ => (intOf i).toNat)
  case atStart => exact ⟨k, ⟨#[]⟩, Nat.le_refl _, rfl, rfl, by show 0 + k ≤ k; omega, rfl, Nx.refl _⟩
  case round =>
    obtain ⟨j, s, hj, rfl, rfl, hs, hto, hnx⟩ := hrel
    rcases Nat.eq_zero_or_pos j with hz | hp2
    · subst hz
      have HF := Lib.hid (hto.done hp)
      go_wp2
      go_ret
      exact ⟨ret_str' HF.out, hnx⟩
    · have hd2 : decide (0 < (j : Int)) = true := by simp; omega
      have hcv := conv_one (48 + (j : Int) % 10) wr
      have HF := Lib.hid (hto.next_ hp2)
      rw [show strOfNums [48 + (j : Int) % 10] = dg j from rfl] at hcv
      have HZ := Lib.hid (dg_size j)
      have hz1 : (dg j).size ≤ 1 := by rw [HZ.out]; omega
      generalize dg j = g at *
      go_wp2
      go_roundw
      case rel => exact ⟨j / 10, g ++ s, by omega, by go_num, rfl, by rw [ByteArray.size_append]; have := HZ.out; omega, HF.out, hnx.alloc _⟩
      case measure => simp [intOf]; omega

def markS (k n : Nat) : List ByteArray := (List.range n).map (fun i => mt (k + i))
def markW (k n : Nat) : List (Int × ByteArray) := (List.range n).map (fun i => (((k + i * 2 : Nat) : Int), mt (k + i * 2 + 1)))
theorem markS_len (k n : Nat) : (markS k n).length = n := by simp [markS]
theorem markW_len (k n : Nat) : (markW k n).length = n := by simp [markW]
theorem markS_at {k n i : Nat} (h : i < n) : (markS k n).getD i ByteArray.empty = mt (k + i) := by
  unfold markS; rw [List.getD_eq_getElem?_getD, List.getElem?_map, List.getElem?_range h]; rfl
theorem markW_at {k n i : Nat} (h : i < n) : (markW k n).getD i (0, ByteArray.empty) = (((k + i * 2 : Nat) : Int), mt (k + i * 2 + 1)) := by
  unfold markW; rw [List.getD_eq_getElem?_getD, List.getElem?_map, List.getElem?_range h]; rfl
/-- A slice that is being filled with marks. -/
def FillA (w : World) (lo hi : Nat) (A : Option Addr) (n : Nat) (t : TypeId) (m k : Nat) (F : Nat → Value) : Prop := 0 < n → ∃ g, A = some ⟨g, 0, none⟩ ∧ lo ≤ g ∧ g < hi ∧ Fill w g t m k F

set_option maxHeartbeats 1000000 in
theorem markStringS_c (A : Option Addr) (n c k lo hi : Nat) (ss : List ByteArray) (w : World) (h : SrS w lo hi A n ss) (hi' : hi ≤ w.heap.size) (hn : n ≤ 1048576) (hk : k ≤ 1099510579200) :
    Calls Tryd.prog 38 #[.slice A n c, .int .i64 k] w fun e w' => e = .returned (.int .i64 ((k + n : Nat) : Int)) ∧ SrS w' lo hi A n (markS k n) ∧ Rg lo hi w w' ∧ TyK 9 w w' := by
  have HS : FillA w lo hi A n 9 n 0 (strAt (markS k n)) := fun hn0 => by
    obtain ⟨g, e, h1, h2, ho⟩ := h.2 hn0
    unfold OwnS at ho
    rw [h.1] at ho
    exact ⟨g, e, h1, h2, Fill.start ho⟩
  go_enter Tryd.func38, Tryd.ntmps38
  go_wp2
  go_loopw [1, 5] (fun q i wr => ∃ j : Nat, j ≤ n ∧ i = .int .i64 j ∧ q = .int .i64 ((k + j : Nat) : Int) ∧ FillA wr lo hi A n 9 n j (strAt (markS k n)) ∧ Rg lo hi w wr ∧ TyK 9 w wr) (fun _ i _ => n - (intOf i).toNat)
  case atStart => exact ⟨0, Nat.zero_le _, rfl, rfl, HS, Rg.of_nx (Nx.refl _), TyK.refl _ _⟩
  case round =>
    obtain ⟨j, hj, rfl, rfl, hf, hrg, hty⟩ := hrel
    clear HS
    by_cases hlt : j < n
    · obtain ⟨g, rfl, hg1, hg2, hfill⟩ := hf (by omega)
      go_wp2_with fail
      refine (markText_c (k + j) _ (by omega)).mono ?_
      rintro e w1 ⟨rfl, hnx1⟩
      have hf1 := hfill.nx hnx1
      obtain ⟨v, hv⟩ := hf1.some_ hlt
      have hz := hf1.frozen j
      go_wp2
      go_roundw
      case rel =>
        refine ⟨j + 1, by omega, by go_num, by go_num, fun _ => ⟨g, rfl, hg1, hg2, hf1.step hlt ?_⟩, (hrg.trans (Rg.of_nx hnx1)).setCell hg1 hg2 _, (hty.nx hnx1).set_fill hf1 _⟩
        unfold strAt; rw [markS_at hlt]
      case measure => simp [intOf]; omega
    · obtain rfl : j = n := by omega
      go_wp2
      go_ret
      refine ⟨rfl, ⟨markS_len _ _, fun hn0 => ?_⟩, hrg, hty⟩
      obtain ⟨g, e, h1, h2, ho⟩ := hf hn0
      refine ⟨g, e, h1, h2, ?_⟩
      unfold OwnS
      rw [markS_len]
      exact ho.done

set_option maxHeartbeats 1000000 in
theorem markWriteS_c (A : Option Addr) (n c k lo hi : Nat) (ws : List (Int × ByteArray)) (w : World) (h : SrW w lo hi A n ws) (hi' : hi ≤ w.heap.size) (hn : n ≤ 1048576) (hk : k ≤ 1099500000000) :
    Calls Tryd.prog 39 #[.slice A n c, .int .i64 k] w fun e w' => e = .returned (.int .i64 ((k + n * 2 : Nat) : Int)) ∧ SrW w' lo hi A n (markW k n) ∧ Rg lo hi w w' ∧ TyK 99 w w' := by
  have HS : FillA w lo hi A n 99 (n * 2) 0 (wrAt (markW k n)) := fun hn0 => by
    obtain ⟨g, e, h1, h2, ho⟩ := h.2 hn0
    unfold OwnW at ho
    rw [h.1] at ho
    exact ⟨g, e, h1, h2, Fill.start ho⟩
  go_enter Tryd.func39, Tryd.ntmps39
  go_wp2
  go_loopw [1, 5] (fun q i wr => ∃ j : Nat, j ≤ n ∧ i = .int .i64 j ∧ q = .int .i64 ((k + j * 2 : Nat) : Int) ∧ FillA wr lo hi A n 99 (n * 2) (j * 2) (wrAt (markW k n)) ∧ Rg lo hi w wr ∧ TyK 99 w wr) (fun _ i _ => n - (intOf i).toNat)
  case atStart => exact ⟨0, Nat.zero_le _, rfl, rfl, HS, Rg.of_nx (Nx.refl _), TyK.refl _ _⟩
  case round =>
    obtain ⟨j, hj, rfl, rfl, hf, hrg, hty⟩ := hrel
    clear HS
    by_cases hlt : j < n
    · obtain ⟨g, rfl, hg1, hg2, hfill⟩ := hf (by omega)
      have hs1 := hfill.step (v := .int .i64 ((k : Int) + (j : Int) * 2)) (by omega) (by rw [wrAt_even, markW_at hlt]; go_num)
      obtain ⟨v0, hv0⟩ := hfill.some_ (i := j * 2) (by omega)
      have hz0 := hfill.frozen (j * 2)
      go_wp2_with fail
      have hr1 := hrg.setCell (p := ⟨g, j * 2, none⟩) hg1 hg2 (.int .i64 ((k : Int) + (j : Int) * 2))
      have ht1 := hty.set_fill (i := j * 2) hfill (.int .i64 ((k : Int) + (j : Int) * 2))
      generalize wr.setCell ⟨g, j * 2, none⟩ (.int .i64 ((k : Int) + (j : Int) * 2)) = w1 at *
      clear hv0 hz0 hfill
      rw [show ((k : Int) + (j : Int) * 2 + 1) = ((k + j * 2 + 1 : Nat) : Int) from by omega]
      refine (markText_c (k + j * 2 + 1) _ (by omega)).mono ?_
      rintro e w2 ⟨rfl, hnx2⟩
      have hf2 := hs1.nx hnx2
      obtain ⟨v1, hv1⟩ := hf2.some_ (i := j * 2 + 1) (by omega)
      have hz1 := hf2.frozen (j * 2 + 1)
      go_wp2
      go_roundw
      case rel =>
        refine ⟨j + 1, by omega, by go_num, by go_num, fun _ => ⟨g, rfl, hg1, hg2, ?_⟩, (hr1.trans (Rg.of_nx hnx2)).setCell hg1 hg2 _, (ht1.nx hnx2).set_fill hf2 _⟩
        rw [show (j + 1) * 2 = j * 2 + 1 + 1 by omega]
        exact hf2.step (by omega) (by rw [wrAt_odd, markW_at hlt])
      case measure => simp [intOf]; omega
    · obtain rfl : j = n := by omega
      go_wp2
      go_ret
      refine ⟨rfl, ⟨markW_len _ _, fun hn0 => ?_⟩, hrg, hty⟩
      obtain ⟨g, e, h1, h2, ho⟩ := hf hn0
      refine ⟨g, e, h1, h2, ?_⟩
      unfold OwnW
      rw [markW_len]
      exact ho.done

set_option maxHeartbeats 1000000 in
theorem heldStringS_c (A : Option Addr) (n c k B : Nat) (w : World) (h : Strs w B A n (markS k n)) (hB : B ≤ w.heap.size) (hn : n ≤ 1048576) (hk : k ≤ 1099510579200) :
    Calls Tryd.prog 40 #[.slice A n c, .int .i64 k] w fun e w' => e = .returned (.int .i64 ((k + n : Nat) : Int)) ∧ Nx w w' := by
  go_enter Tryd.func40, Tryd.ntmps40
  go_wp2
  go_loopw [1, 5] (fun q i wr => ∃ j : Nat, j ≤ n ∧ i = .int .i64 j ∧ q = .int .i64 ((k + j : Nat) : Int) ∧ Nx w wr) (fun _ i _ => n - (intOf i).toNat)
  case atStart => exact ⟨0, Nat.zero_le _, rfl, rfl, Nx.refl _⟩
  case round =>
    obtain ⟨j, hj, rfl, rfl, hnx⟩ := hrel
    by_cases hlt : j < n
    · have hnd : Nx w wr.drew := hnx.drew
      obtain ⟨b, off, rfl, hb, hc⟩ := (h.below hnd hB).at_ hlt
      rw [markS_at hlt] at hc
      have hbw : b < wr.drew.heap.size := Nat.lt_of_lt_of_le (Nat.lt_of_lt_of_le hb hB) hnd.size
      go_wp2_with fail
      go_region_held3 (fun w' => w'.cell? ⟨b, off + j, none⟩ = some (.string (mt (k + j)))) (first | exact hc | exact k0)
        (first | (go_at_call 66; refine (markText_c (k + j) _ (by omega)).mono ?_; rintro e w1 ⟨rfl, hnx1⟩; have k0 := (hnx1.cell (p := ⟨b, off + j, none⟩) hbw).trans hc))
      go_wp2
      go_roundw
      case rel => exact ⟨j + 1, by omega, by go_num, by go_num, hnd.trans hnx1⟩
      case measure => simp [intOf]; omega
    · obtain rfl : j = n := by omega
      go_wp2
      go_ret
      exact ⟨rfl, hnx⟩

set_option maxHeartbeats 1000000 in
theorem heldWriteS_c (A : Option Addr) (n c k B : Nat) (w : World) (h : Wrs w B A n (markW k n)) (hB : B ≤ w.heap.size) (hn : n ≤ 1048576) (hk : k ≤ 1099500000000) :
    Calls Tryd.prog 41 #[.slice A n c, .int .i64 k] w fun e w' => e = .returned (.int .i64 ((k + n * 2 : Nat) : Int)) ∧ Nx w w' := by
  go_enter Tryd.func41, Tryd.ntmps41
  go_wp2
  go_loopw [1, 5] (fun q i wr => ∃ j : Nat, j ≤ n ∧ i = .int .i64 j ∧ q = .int .i64 ((k + j * 2 : Nat) : Int) ∧ Nx w wr) (fun _ i _ => n - (intOf i).toNat)
  case atStart => exact ⟨0, Nat.zero_le _, rfl, rfl, Nx.refl _⟩
  case round =>
    obtain ⟨j, hj, rfl, rfl, hnx⟩ := hrel
    by_cases hlt : j < n
    · have hnd : Nx w wr.drew := hnx.drew
      obtain ⟨b, off, rfl, hb, hc, hd⟩ := (h.below hnd hB).at_ hlt
      rw [markW_at hlt] at hc hd
      have hc' : wr.cell? ⟨b, off + j * 2, none⟩ = some (.int .i64 ((k : Int) + (j : Int) * 2)) := by
        have e : (((k + j * 2 : Nat) : Int)) = (k : Int) + (j : Int) * 2 := by omega
        rw [← e]; exact hc
      clear hc
      have hbw : b < wr.drew.heap.size := Nat.lt_of_lt_of_le (Nat.lt_of_lt_of_le hb hB) hnd.size
      rw [show (((k + j * 2 : Nat) : Int)) = (k : Int) + (j : Int) * 2 from by omega]
      dsimp only at hd
      go_wp2_with fail
      go_region_held3 (fun w' => w'.cell? ⟨b, off + j * 2 + 1, none⟩ = some (.string (mt (k + j * 2 + 1)))) (first | exact hd | exact k0)
        (first | (go_at_call 66; rw [show ((k : Int) + (j : Int) * 2 + 1) = ((k + j * 2 + 1 : Nat) : Int) from by omega]; refine (markText_c (k + j * 2 + 1) _ (by omega)).mono ?_; rintro e w1 ⟨rfl, hnx1⟩; have k0 := (hnx1.cell (p := ⟨b, off + j * 2 + 1, none⟩) hbw).trans hd))
      go_wp2
      go_roundw
      case rel => exact ⟨j + 1, by omega, by go_num, by go_num, hnd.trans hnx1⟩
      case measure => simp [intOf]; omega
    · obtain rfl : j = n := by omega
      go_wp2
      go_ret
      exact ⟨rfl, hnx⟩

set_option maxHeartbeats 1000000 in
theorem markDisk_c (A A2 : Option Addr) (n c n2 c2 k lo hi : Nat) (ss : List ByteArray) (ws : List (Int × ByteArray)) (w : World) (h : SrS w lo hi A n ss) (h2 : SrW w lo hi A2 n2 ws) (hi' : hi ≤ w.heap.size) (hn : n ≤ 1048576) (hn2 : n2 ≤ 1048576) (hk : k ≤ 1048576) :
    Calls Tryd.prog 11 #[.agg #[.slice A n c, .slice A2 n2 c2], .int .i64 k] w fun e w' => e = .returned (.int .i64 ((k + n + n2 * 2 : Nat) : Int)) ∧ SrS w' lo hi A n (markS k n) ∧ SrW w' lo hi A2 n2 (markW (k + n) n2) ∧ Rg lo hi w w' := by
  go_enter Tryd.func11, Tryd.ntmps11
  go_wp2_with fail
  have b0 := Box.new w 26 #[.slice A n c, .slice A2 n2 c2]
  have hnx0 := (Nx.refl w).alloc (.cells #[.slice A n c, .slice A2 n2 c2] 26)
  have HZ := Lib.hid (show (w.alloc (.cells #[.slice A n c, .slice A2 n2 c2] 26)).heap.size = w.heap.size + 1 by simp)
  generalize w.alloc (.cells #[.slice A n c, .slice A2 n2 c2] 26) = W at *
  refine (markStringS_c A n c k lo hi ss _ (h.nx hnx0) (by have := HZ.out; omega) hn (by omega)).mono ?_
  rintro e w1 ⟨rfl, hS1, hr1, ht1⟩
  have b1 := b0.rg hr1 (.inr hi')
  have c1 := b1.c1
  have c0 := b1.c0
  have hsz1 := hr1.size
  go_wp2_with fail
  rw [show ((k : Int) + (n : Int)) = ((k + n : Nat) : Int) from by omega]
  refine (markWriteS_c A2 n2 c2 (k + n) lo hi ws _ ((h2.nx hnx0).ty ht1) (by have := HZ.out; omega) hn2 (by omega)).mono ?_
  rintro e w2 ⟨rfl, hW2, hr2, ht2⟩
  go_wp2
  go_ret
  exact ⟨rfl, hS1.ty ht2, hW2, ((Rg.of_nx hnx0).trans hr1).trans hr2⟩

set_option maxHeartbeats 1000000 in
theorem heldDisk_c (A A2 : Option Addr) (n c n2 c2 k B : Nat) (w : World) (h : Strs w B A n (markS k n)) (h2 : Wrs w B A2 n2 (markW (k + n) n2)) (hB : B ≤ w.heap.size) (hn : n ≤ 1048576) (hn2 : n2 ≤ 1048576) (hk : k ≤ 1048576) :
    Calls Tryd.prog 12 #[.agg #[.slice A n c, .slice A2 n2 c2], .int .i64 k] w fun e w' => e = .returned (.int .i64 ((k + n + n2 * 2 : Nat) : Int)) ∧ Nx w w' := by
  go_enter Tryd.func12, Tryd.ntmps12
  go_wp2_with fail
  have b0 := Box.new w 26 #[.slice A n c, .slice A2 n2 c2]
  have hnx0 := (Nx.refl w).alloc (.cells #[.slice A n c, .slice A2 n2 c2] 26)
  generalize w.alloc (.cells #[.slice A n c, .slice A2 n2 c2] 26) = W at *
  refine (heldStringS_c A n c k B _ (h.below hnx0 hB) (Nat.le_trans hB hnx0.size) hn (by omega)).mono ?_
  rintro e w1 ⟨rfl, hnx1⟩
  have b1 := b0.nx hnx1
  have c1 := b1.c1
  have c0 := b1.c0
  have hx1 := hnx0.trans hnx1
  have hd : decide ((k : Int) + (n : Int) < 0) = false := by simp; omega
  go_wp2_with fail
  rw [show ((k : Int) + (n : Int)) = ((k + n : Nat) : Int) from by omega]
  refine (heldWriteS_c A2 n2 c2 (k + n) B _ (h2.below hx1 hB) (Nat.le_trans hB hx1.size) hn2 (by omega)).mono ?_
  rintro e w2 ⟨rfl, hnx2⟩
  have hd2 : decide ((((k + n + n2 * 2 : Nat) : Int)) < 0) = false := by simp; omega
  go_wp2
  go_ret
  exact ⟨by first | rfl | go_num, hx1.trans hnx2⟩
end Go.Proofs.YtehahodomfbpjaaDoor
/- Contracts of NewDisk, as the model and as the program have it, and the walk of the law FnExactNewDisk. Conditions: none. -/
namespace Go.Proofs.YtehahodomfbpjaaDoor
set_option linter.unusedVariables false
set_option maxRecDepth 100000
open Go.RowKit

def noS : List ByteArray := List.replicate 64 ByteArray.empty
theorem noS_len : noS.length = 64 := by simp [noS]
theorem noS_at {i : Nat} (h : i < 64) : noS.getD i ByteArray.empty = ByteArray.empty := by
  unfold noS; rw [List.getD_eq_getElem?_getD, List.getElem?_replicate, if_pos h]; rfl
theorem made_noS (w : World) : OwnS (w.alloc (.cells (madeCells #[Value.string ByteArray.empty] 64) 9)) w.heap.size noS := by
  unfold OwnS
  rw [noS_len]
  refine (Own.made w #[Value.string ByteArray.empty] 64 9).congr fun i hi => ?_
  unfold strAt
  rw [noS_at hi]
  simp [Nat.mod_one]
theorem make64 (W : World) : (Instr.makeSlice 23 (.int .i64 64) (.int .i64 64)).run Tryd.prog W = .ok (.slice (some ⟨W.heap.size, 0, none⟩) 64 64) (W.alloc (.cells (madeCells #[Value.string ByteArray.empty] 64) 9)) := by
  obtain ⟨i0, hi0, hz0, hz1, hz2⟩ := info_parts info_str
  have hmk := run_make_rowN (P := Tryd.prog) 23 9 i0 _ Tryd.underlying23 hi0 hz0 .i64 .i64 64 64 (Nat.le_refl _) (by rw [hz2]; omega) (by omega) W
  rw [hz1] at hmk
  exact hmk

set_option maxRecDepth 100000 in
set_option maxHeartbeats 1000000 in
theorem implNewDisk_c (w : World) : Calls Tryd.prog 32 #[] w (RetDisk w noS []) := by
  have hmk := make64
  go_enter Tryd.func32, Tryd.ntmps32
  go_wp2
  have ho := made_noS (w.alloc (.cells #[.slice (some ⟨w.heap.size + 1, 0, none⟩) 64 64, .slice none 0 0] 26))
  simp only [World.size_alloc] at ho
  have hx := ((Nx.refl w).alloc (.cells #[.slice (some ⟨w.heap.size + 1, 0, none⟩) 64 64, .slice none 0 0] 26)).alloc (.cells (madeCells #[Value.string ByteArray.empty] 64) 9)
  have q := (Box.new w 26 #[.slice (some ⟨w.heap.size + 1, 0, none⟩) 64 64, .slice none 0 0]).alloc (.cells (madeCells #[Value.string ByteArray.empty] 64) 9)
  have q0 := q.c0
  have q1 := q.c1
  generalize (w.alloc (.cells #[.slice (some ⟨w.heap.size + 1, 0, none⟩) 64 64, .slice none 0 0] 26)).alloc (.cells (madeCells #[Value.string ByteArray.empty] 64) 9) = W at *
  exact bodyPost_ret (v := .agg #[.slice (some ⟨w.heap.size + 1, 0, none⟩) 64 64, .slice none 0 0]) (by simp [results, Tryd.results32, go_sem, q0, q1]) rfl
    ⟨_, 64, 64, none, 0, 0, rfl, ⟨noS_len, fun _ => ⟨_, rfl, by omega, ho⟩⟩, ⟨rfl, fun h => absurd h (by omega)⟩, hx⟩
set_option maxRecDepth 100000 in
set_option maxHeartbeats 1000000 in
theorem specNewDisk_c (w : World) : Calls Tryd.prog 56 #[] w (RetDisk w noS []) := by
  have hmk := make64
  go_enter Tryd.func56, Tryd.ntmps56
  go_wp2
  have ho := Own.alloc (made_noS (w.alloc (.cells #[.slice (some ⟨w.heap.size + 1, 0, none⟩) 64 64, .slice (some ⟨w.heap.size + 1 + 1, 0, none⟩) 0 0] 26))) (.cells #[] 99)
  simp only [World.size_alloc] at ho
  have hx := (((Nx.refl w).alloc (.cells #[.slice (some ⟨w.heap.size + 1, 0, none⟩) 64 64, .slice (some ⟨w.heap.size + 1 + 1, 0, none⟩) 0 0] 26)).alloc (.cells (madeCells #[Value.string ByteArray.empty] 64) 9)).alloc (.cells #[] 99)
  have q := ((Box.new w 26 #[.slice (some ⟨w.heap.size + 1, 0, none⟩) 64 64, .slice (some ⟨w.heap.size + 1 + 1, 0, none⟩) 0 0]).alloc (.cells (madeCells #[Value.string ByteArray.empty] 64) 9)).alloc (.cells #[] 99)
  have q0 := q.c0
  have q1 := q.c1
  generalize ((w.alloc (.cells #[.slice (some ⟨w.heap.size + 1, 0, none⟩) 64 64, .slice (some ⟨w.heap.size + 1 + 1, 0, none⟩) 0 0] 26)).alloc (.cells (madeCells #[Value.string ByteArray.empty] 64) 9)).alloc (.cells #[] 99) = W at *
  exact bodyPost_ret (v := .agg #[.slice (some ⟨w.heap.size + 1, 0, none⟩) 64 64, .slice (some ⟨w.heap.size + 1 + 1, 0, none⟩) 0 0]) (by simp [results, Tryd.results56, go_sem, q0, q1]) rfl
    ⟨_, 64, 64, _, 0, 0, rfl, ⟨noS_len, fun _ => ⟨_, rfl, by omega, ho⟩⟩, ⟨rfl, fun h => absurd h (by omega)⟩, hx⟩

end Go.Proofs.YtehahodomfbpjaaDoor
/- Contracts of FrameOK, as the model and as the program have it: both answer the same bool of every frame. Conditions: none. -/
namespace Go.Proofs.YtehahodomfbpjaaDoor
set_option linter.unusedVariables false
set_option maxRecDepth 100000
open Go.RowKit

/-- A number within its bounds. -/
def inB (lo hi a : Int) : Bool := decide (lo ≤ a) && decide (a ≤ hi)
theorem inB_yes {lo hi a : Int} (h : inB lo hi a = true) : lo ≤ a ∧ a ≤ hi := by
  unfold inB at h; simpa using h
set_option maxHeartbeats 1000000 in
theorem l01In_c (a lo hi : Int) (w : World) : Calls Tryd.prog 54 #[.int .i64 a, .int .i64 lo, .int .i64 hi] w fun e w' => e = .returned (.bool (inB lo hi a)) ∧ w = w' := by
  go_enter Tryd.func54, Tryd.ntmps54
  go_wp2
  all_goals (go_ret; refine ⟨ret_bool ?_, rfl⟩; unfold inB; rw [Bool.eq_iff_iff]; simp; try omega)
set_option maxHeartbeats 1000000 in
theorem isWithin_c (a lo hi : Int) (w : World) : Calls Tryd.prog 85 #[.int .i64 a, .int .i64 lo, .int .i64 hi] w fun e w' => e = .returned (.bool (inB lo hi a)) ∧ w = w' := by
  go_enter Tryd.func85, Tryd.ntmps85
  go_wp2
  all_goals (go_ret; refine ⟨ret_bool ?_, rfl⟩; unfold inB; rw [Bool.eq_iff_iff]; simp; try omega)
theorem isValue_c (a : Int) (w : World) : Calls Tryd.prog 78 #[.int .i64 a] w fun e w' => e = .returned (.bool (inB 0 999999 a)) ∧ w = w' := by
  go_enter Tryd.func78, Tryd.ntmps78
  go_wp2_with (go_at_call 85; refine (isWithin_c _ _ _ _).mono ?_; rintro e w' ⟨rfl, rfl⟩)
  go_ret
  exact ⟨rfl, rfl⟩
end Go.Proofs.YtehahodomfbpjaaDoor
