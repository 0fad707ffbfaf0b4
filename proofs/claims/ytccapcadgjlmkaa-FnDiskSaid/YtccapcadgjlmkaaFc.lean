/-
  Contracts of FlushDisk and CrashDisk, as the model and as the program have them: both answer the same disk and the same code, in new memory.
  Conditions: the disk can be read, and holds at most 1048576 elements of a kind.
-/
import Derived.Test.YtccapcadgjlmkaaBase
import Derived.Test.YtccapcadgjlmkaaDok
import Derived.Test.YtccapcadgjlmkaaCp
import Derived.Test.YtccapcadgjlmkaaSw
import Derived.Test.YtccapcadgjlmkaaFl
namespace Go.Proofs.Ytccapcadgjlmkaa
set_option linter.unusedVariables false
open Go.RowKit

theorem settle_congr {kp kp' : Nat → Bool} (h : ∀ i, kp i = kp' i) (ss : List ByteArray) (ws : List (Int × ByteArray)) (k : Nat) : settleTo kp ss ws k = settleTo kp' ss ws k := by
  rw [funext h]
theorem box_bls {w : World} {g : Nat} {t : TypeId} {b : Bool} (h : Box w g t #[.bool b]) : Bls w w.heap.size (some ⟨g, 0, none⟩) 1 [b] := ⟨rfl, fun _ => ⟨g, 0, rfl, h.lt, fun i hi => by
  obtain rfl : i = 0 := by omega
  exact h.cell 0⟩⟩
def flP (ss : List ByteArray) (ws : List (Int × ByteArray)) : (List ByteArray × List (Int × ByteArray)) × Int := if diskB ss ws = false then (([], []), 1) else ((settleTo kpAll ss ws ws.length, []), 0)
def crP (ss : List ByteArray) (ws : List (Int × ByteArray)) (bs : List Bool) : (List ByteArray × List (Int × ByteArray)) × Int :=
  if 4096 < bs.length then (([], []), 2) else if diskB ss ws = false then (([], []), 1) else ((settleTo (kpC bs) ss ws ws.length, []), 0)
section
variable {ss R1 : List ByteArray} {ws R2 : List (Int × ByteArray)} {bs : List Bool} {cd : Int}
theorem flP_bad (h : diskB ss ws = false) : flP ss ws = (([], []), 1) := by unfold flP; rw [if_pos h]
theorem flP_ok (h : diskB ss ws = true) : flP ss ws = ((settleTo kpAll ss ws ws.length, []), 0) := by unfold flP; rw [if_neg (by simp [h])]
theorem crP_long (h : 4096 < bs.length) : crP ss ws bs = (([], []), 2) := by unfold crP; rw [if_pos h]
theorem crP_bad (h0 : ¬ 4096 < bs.length) (h : diskB ss ws = false) : crP ss ws bs = (([], []), 1) := by unfold crP; rw [if_neg h0, if_pos h]
theorem crP_ok (h0 : ¬ 4096 < bs.length) (h : diskB ss ws = true) : crP ss ws bs = ((settleTo (kpC bs) ss ws ws.length, []), 0) := by unfold crP; rw [if_neg h0, if_neg (by simp [h])]
theorem flP_len (h : flP ss ws = ((R1, R2), cd)) : R1.length ≤ 64 ∧ R2.length ≤ 81 := by
  cases hok : diskB ss ws with
  | false => rw [flP_bad hok] at h; cases h; simp
  | true => rw [flP_ok hok] at h; cases h; rw [settleTo_len, (diskB_len64 hok).1]; simp
theorem crP_len (h : crP ss ws bs = ((R1, R2), cd)) : R1.length ≤ 64 ∧ R2.length ≤ 81 := by
  by_cases h0 : 4096 < bs.length
  · rw [crP_long h0] at h; cases h; simp
  cases hok : diskB ss ws with
  | false => rw [crP_bad h0 hok] at h; cases h; simp
  | true => rw [crP_ok h0 hok] at h; cases h; rw [settleTo_len, (diskB_len64 hok).1]; simp
end

set_option maxRecDepth 100000 in
set_option maxHeartbeats 2000000 in
theorem flushed_c (A A2 : Option Addr) (c n2 c2 B : Nat) (ss : List ByteArray) (ws : List (Int × ByteArray)) (w : World) (h : Strs w B A 64 ss) (h2 : Wrs w B A2 n2 ws) (hB : B ≤ w.heap.size) (hn2 : n2 ≤ 80) (hall : ws.all wOk = true) :
    Calls Try.prog 49 #[.agg #[.slice A 64 c, .slice A2 n2 c2]] w (RetDisk w (settleTo kpAll ss ws n2) []) := by
  have HA := Lib.hid hall
  clear hall
  go_enter Try.func49, Try.ntmps49
  go_wp2_with fail
  have r1 := Box.new (w.alloc (.cells #[.slice A 64 c, .slice A2 n2 c2] 26)) 26 #[.slice none 0 0, .slice none 0 0]
  have hx1 := ((Nx.refl w).alloc (.cells #[.slice A 64 c, .slice A2 n2 c2] 26)).alloc (.cells #[.slice none 0 0, .slice none 0 0] 26)
  have hz1 : w.heap.size + 1 + 1 = ((w.alloc (.cells #[.slice A 64 c, .slice A2 n2 c2] 26)).alloc (.cells #[.slice none 0 0, .slice none 0 0] 26)).heap.size := by simp
  rw [hz1]
  simp only [World.size_alloc] at r1
  generalize (w.alloc (.cells #[.slice A 64 c, .slice A2 n2 c2] 26)).alloc (.cells #[.slice none 0 0, .slice none 0 0] 26) = w1 at *
  have k0 := Box.new w1 4 #[.bool true]
  have hxk := hx1.alloc (.cells #[.bool true] 4)
  have hk : Bls (w1.alloc (.cells #[.bool true] 4)) (w1.alloc (.cells #[.bool true] 4)).heap.size (some ⟨w1.heap.size, 0, none⟩) 1 [true] := box_bls k0
  have hl1 : w1.heap.size ≤ (w1.alloc (.cells #[.bool true] 4)).heap.size := by simp
  have hnk := (Nx.refl w1).alloc (.cells #[.bool true] 4)
  generalize w1.alloc (.cells #[.bool true] 4) = w2 at *
  refine (settled_c A A2 (some ⟨w1.heap.size, 0, none⟩) c n2 c2 1 1 _ ss ws [true] _ ((h.below hxk hB).more (Nat.le_trans hB hxk.size)) ((h2.below hxk hB).more (Nat.le_trans hB hxk.size)) hk (Nat.le_refl _) hn2 (by omega) (by omega) HA.out).mono ?_
  rintro e w3 ⟨A5, n5, c5, A6, n6, c6, rfl, hS3, hW4, hx3'⟩
  rw [show settleTo (kpOf [true]) ss ws n2 = settleTo (kpAll) ss ws n2 from settle_congr (fun i => by simp [kpOf, kpAll, Nat.mod_one]) _ _ _] at hS3
  have hx3 := hnk.trans hx3'
  have r3 := r1.nx hx3
  have s0 := r3.c0
  have s1 := r3.c1
  have f0 := r3.frozen 0
  have f1 := r3.frozen 1
  have l1 := r1.lt
  go_wp2
  obtain ⟨q0, q1, hSf, hWf, hxf⟩ := fin_box c5 c6 r3 hS3 hW4 (by omega) (by omega) (hx1.trans hx3) (by omega)
  generalize (w3.setCell ⟨w.heap.size + 1, 0, none⟩ (.slice A5 n5 c5)).setCell ⟨w.heap.size + 1, 1, none⟩ (.slice A6 n6 c6) = Wf at *
  exact bodyPost_ret (v := .agg #[.slice A5 n5 c5, .slice A6 n6 c6]) (by simp [results, Try.results49, go_sem, q0, q1]) rfl ⟨A5, n5, c5, A6, n6, c6, rfl, hSf, hWf, hxf⟩

set_option maxRecDepth 100000 in
set_option maxHeartbeats 2000000 in
theorem implFlushDisk_r (A A2 : Option Addr) (n c n2 c2 B : Nat) (ss : List ByteArray) (ws : List (Int × ByteArray)) (w : World) (R1 : List ByteArray) (R2 : List (Int × ByteArray)) (cd : Int) (HP : flP ss ws = ((R1, R2), cd)) (h : Strs w B A n ss) (h2 : Wrs w B A2 n2 ws) (hB : B ≤ w.heap.size) (hn : n ≤ 1048576) (hn2 : n2 ≤ 1048576) :
    Calls Try.prog 13 #[.agg #[.slice A n c, .slice A2 n2 c2]] w (RetDiskCode w R1 R2 cd) := by
  cases hok : diskB ss ws with
  | false =>
    rw [flP_bad hok] at HP
    cases HP
    have HO := Lib.hid hok
    clear hok
    go_enter Try.func13, Try.ntmps13
    go_wp2_with fail
    have b0 := (Box.new w 26 #[.slice A n c, .slice A2 n2 c2]).alloc (.cells #[.slice none 0 0, .slice none 0 0] 26)
    have r0 := Box.new (w.alloc (.cells #[.slice A n c, .slice A2 n2 c2] 26)) 26 #[.slice none 0 0, .slice none 0 0]
    have hnx0 := ((Nx.refl w).alloc (.cells #[.slice A n c, .slice A2 n2 c2] 26)).alloc (.cells #[.slice none 0 0, .slice none 0 0] 26)
    simp only [World.size_alloc] at r0
    generalize (w.alloc (.cells #[.slice A n c, .slice A2 n2 c2] 26)).alloc (.cells #[.slice none 0 0, .slice none 0 0] 26) = W at *
    refine (isRight_c A A2 n c n2 c2 B ss ws _ (h.below hnx0 hB) (h2.below hnx0 hB) (Nat.le_trans hB hnx0.size) (by omega) (by omega)).mono ?_
    rintro e w1 ⟨rfl, hnx1⟩
    rw [HO.out]
    have b1 := b0.nx hnx1
    have r1 := r0.nx hnx1
    have hx1 := hnx0.trans hnx1
    clear b0 r0 hnx0 hnx1
    have c0 := b1.c0
    have c1 := b1.c1
    have s0 := r1.c0
    have s1 := r1.c1
    have f0 := r1.frozen 0
    have f1 := r1.frozen 1
    go_wp2
    obtain ⟨q0, q1, hSf, hWf, hxf⟩ := fin_box 0 0 r1 (SlS.nil w1 (w.heap.size + 1 + 1)) (SlW.nil w1 (w.heap.size + 1 + 1)) (by omega) (by omega) hx1 (by omega)
    generalize (w1.setCell ⟨w.heap.size + 1, 0, none⟩ (.slice none 0 0)).setCell ⟨w.heap.size + 1, 1, none⟩ (.slice none 0 0) = Wf at *
    exact bodyPost_ret (v := .tuple #[.agg #[.slice none 0 0, .slice none 0 0], .int .i64 1]) (by simp [results, Try.results13, go_sem, q0, q1]) rfl ⟨none, 0, 0, none, 0, 0, rfl, hSf, hWf, hxf⟩

  | true =>
  rw [flP_ok hok, h2.1] at HP
  cases HP
  have HO := Lib.hid hok
  have hn64 : 64 = n := by have := (diskB_len64 hok).1; rw [h.1] at this; exact this.symm
  subst hn64
  have hn80 : n2 ≤ 80 := by have := (diskB_len64 hok).2.1; rw [h2.1] at this; exact this
  have HW := Lib.hid (diskB_len64 hok).2.2.2
  clear hok
  go_enter Try.func13, Try.ntmps13
  go_wp2_with fail
  have b0 := (Box.new w 26 #[.slice A 64 c, .slice A2 n2 c2]).alloc (.cells #[.slice none 0 0, .slice none 0 0] 26)
  have r0 := Box.new (w.alloc (.cells #[.slice A 64 c, .slice A2 n2 c2] 26)) 26 #[.slice none 0 0, .slice none 0 0]
  have hnx0 := ((Nx.refl w).alloc (.cells #[.slice A 64 c, .slice A2 n2 c2] 26)).alloc (.cells #[.slice none 0 0, .slice none 0 0] 26)
  simp only [World.size_alloc] at r0
  generalize (w.alloc (.cells #[.slice A 64 c, .slice A2 n2 c2] 26)).alloc (.cells #[.slice none 0 0, .slice none 0 0] 26) = W at *
  refine (isRight_c A A2 64 c n2 c2 B ss ws _ (h.below hnx0 hB) (h2.below hnx0 hB) (Nat.le_trans hB hnx0.size) (by omega) (by omega)).mono ?_
  rintro e w1 ⟨rfl, hnx1⟩
  rw [HO.out]
  have b1 := b0.nx hnx1
  have r1 := r0.nx hnx1
  have hx1 := hnx0.trans hnx1
  clear b0 r0 hnx0 hnx1
  have c0 := b1.c0
  have c1 := b1.c1
  have s0 := r1.c0
  have s1 := r1.c1
  have f0 := r1.frozen 0
  have f1 := r1.frozen 1
  go_wp2_with fail
  clear s0 s1 f0 f1
  refine (flushed_c A A2 c n2 c2 B ss ws _ (h.below hx1 hB) (h2.below hx1 hB) (Nat.le_trans hB hx1.size) hn80 HW.out).mono ?_
  rintro e w3 ⟨A5, n5, c5, A6, n6, c6, rfl, hS3, hW4, hx3⟩
  clear c0 c1
  have r3 := r1.nx hx3
  have s0 := r3.c0
  have s1 := r3.c1
  have f0 := r3.frozen 0
  have f1 := r3.frozen 1
  have l1 := r1.lt
  go_wp2
  obtain ⟨q0, q1, hSf, hWf, hxf⟩ := fin_box c5 c6 r3 hS3 hW4 (by omega) (by omega) (hx1.trans hx3) (by omega)
  generalize (w3.setCell ⟨w.heap.size + 1, 0, none⟩ (.slice A5 n5 c5)).setCell ⟨w.heap.size + 1, 1, none⟩ (.slice A6 n6 c6) = Wf at *
  exact bodyPost_ret (v := .tuple #[.agg #[.slice A5 n5 c5, .slice A6 n6 c6], .int .i64 0]) (by simp [results, Try.results13, go_sem, q0, q1]) rfl ⟨A5, n5, c5, A6, n6, c6, rfl, hSf, hWf, hxf⟩

set_option maxRecDepth 100000 in
set_option maxHeartbeats 2000000 in
theorem specFlushDisk_r (A A2 : Option Addr) (n c n2 c2 B : Nat) (ss : List ByteArray) (ws : List (Int × ByteArray)) (w : World) (R1 : List ByteArray) (R2 : List (Int × ByteArray)) (cd : Int) (HP : flP ss ws = ((R1, R2), cd)) (h : Strs w B A n ss) (h2 : Wrs w B A2 n2 ws) (hB : B ≤ w.heap.size) (hn : n ≤ 1048576) (hn2 : n2 ≤ 1048576) :
    Calls Try.prog 28 #[.agg #[.slice A n c, .slice A2 n2 c2]] w (RetDiskCode w R1 R2 cd) := by
  cases hok : diskB ss ws with
  | false =>
    rw [flP_bad hok] at HP
    cases HP
    have HO := Lib.hid hok
    clear hok
    go_enter Try.func28, Try.ntmps28
    go_wp2_with fail
    have b0 := (Box.new w 26 #[.slice A n c, .slice A2 n2 c2]).alloc (.cells #[.slice none 0 0, .slice none 0 0] 26)
    have r0 := Box.new (w.alloc (.cells #[.slice A n c, .slice A2 n2 c2] 26)) 26 #[.slice none 0 0, .slice none 0 0]
    have hnx0 := ((Nx.refl w).alloc (.cells #[.slice A n c, .slice A2 n2 c2] 26)).alloc (.cells #[.slice none 0 0, .slice none 0 0] 26)
    simp only [World.size_alloc] at r0
    generalize (w.alloc (.cells #[.slice A n c, .slice A2 n2 c2] 26)).alloc (.cells #[.slice none 0 0, .slice none 0 0] 26) = W at *
    refine (specDiskOK_c A A2 n c n2 c2 B ss ws _ (h.below hnx0 hB) (h2.below hnx0 hB) (Nat.le_trans hB hnx0.size) (by omega) (by omega)).mono ?_
    rintro e w1 ⟨rfl, hnx1⟩
    rw [HO.out]
    have b1 := b0.nx hnx1
    have r1 := r0.nx hnx1
    have hx1 := hnx0.trans hnx1
    clear b0 r0 hnx0 hnx1
    have c0 := b1.c0
    have c1 := b1.c1
    have s0 := r1.c0
    have s1 := r1.c1
    have f0 := r1.frozen 0
    have f1 := r1.frozen 1
    go_wp2
    obtain ⟨q0, q1, hSf, hWf, hxf⟩ := fin_box 0 0 r1 (SlS.nil w1 (w.heap.size + 1 + 1)) (SlW.nil w1 (w.heap.size + 1 + 1)) (by omega) (by omega) hx1 (by omega)
    generalize (w1.setCell ⟨w.heap.size + 1, 0, none⟩ (.slice none 0 0)).setCell ⟨w.heap.size + 1, 1, none⟩ (.slice none 0 0) = Wf at *
    exact bodyPost_ret (v := .tuple #[.agg #[.slice none 0 0, .slice none 0 0], .int .i64 1]) (by simp [results, Try.results28, go_sem, q0, q1]) rfl ⟨none, 0, 0, none, 0, 0, rfl, hSf, hWf, hxf⟩

  | true =>
  rw [flP_ok hok, h2.1] at HP
  cases HP
  have HO := Lib.hid hok
  have hn64 : 64 = n := by have := (diskB_len64 hok).1; rw [h.1] at this; exact this.symm
  subst hn64
  have hn80 : n2 ≤ 80 := by have := (diskB_len64 hok).2.1; rw [h2.1] at this; exact this
  have HW := Lib.hid (diskB_len64 hok).2.2.2
  clear hok
  go_enter Try.func28, Try.ntmps28
  go_wp2_with fail
  have b0 := (Box.new w 26 #[.slice A 64 c, .slice A2 n2 c2]).alloc (.cells #[.slice none 0 0, .slice none 0 0] 26)
  have r0 := Box.new (w.alloc (.cells #[.slice A 64 c, .slice A2 n2 c2] 26)) 26 #[.slice none 0 0, .slice none 0 0]
  have hnx0 := ((Nx.refl w).alloc (.cells #[.slice A 64 c, .slice A2 n2 c2] 26)).alloc (.cells #[.slice none 0 0, .slice none 0 0] 26)
  simp only [World.size_alloc] at r0
  generalize (w.alloc (.cells #[.slice A 64 c, .slice A2 n2 c2] 26)).alloc (.cells #[.slice none 0 0, .slice none 0 0] 26) = W at *
  refine (specDiskOK_c A A2 64 c n2 c2 B ss ws _ (h.below hnx0 hB) (h2.below hnx0 hB) (Nat.le_trans hB hnx0.size) (by omega) (by omega)).mono ?_
  rintro e w1 ⟨rfl, hnx1⟩
  rw [HO.out]
  have b1 := b0.nx hnx1
  have r1 := r0.nx hnx1
  have hx1 := hnx0.trans hnx1
  clear b0 r0 hnx0 hnx1
  have c0 := b1.c0
  have c1 := b1.c1
  have s0 := r1.c0
  have s1 := r1.c1
  have f0 := r1.frozen 0
  have f1 := r1.frozen 1
  go_wp2_with fail
  clear s0 s1 f0 f1
  refine (l01Flush_c A A2 c n2 c2 B ss ws _ (h.below hx1 hB) (h2.below hx1 hB) (Nat.le_trans hB hx1.size) hn80 HW.out).mono ?_
  rintro e w3 ⟨A5, n5, c5, A6, n6, c6, rfl, hS3, hW4, hx3⟩
  clear c0 c1
  have r3 := r1.nx hx3
  have s0 := r3.c0
  have s1 := r3.c1
  have f0 := r3.frozen 0
  have f1 := r3.frozen 1
  have l1 := r1.lt
  go_wp2
  obtain ⟨q0, q1, hSf, hWf, hxf⟩ := fin_box c5 c6 r3 hS3 hW4 (by omega) (by omega) (hx1.trans hx3) (by omega)
  generalize (w3.setCell ⟨w.heap.size + 1, 0, none⟩ (.slice A5 n5 c5)).setCell ⟨w.heap.size + 1, 1, none⟩ (.slice A6 n6 c6) = Wf at *
  exact bodyPost_ret (v := .tuple #[.agg #[.slice A5 n5 c5, .slice A6 n6 c6], .int .i64 0]) (by simp [results, Try.results28, go_sem, q0, q1]) rfl ⟨A5, n5, c5, A6, n6, c6, rfl, hSf, hWf, hxf⟩

set_option maxRecDepth 100000 in
set_option maxHeartbeats 2000000 in
theorem implCrashDisk_r (A A2 : Option Addr) (n c n2 c2 B : Nat) (ss : List ByteArray) (ws : List (Int × ByteArray)) (A3 : Option Addr) (m c3 : Nat) (bs : List Bool) (w : World) (R1 : List ByteArray) (R2 : List (Int × ByteArray)) (cd : Int) (HP : crP ss ws bs = ((R1, R2), cd)) (h : Strs w B A n ss) (h2 : Wrs w B A2 n2 ws) (hB : B ≤ w.heap.size) (hn : n ≤ 1048576) (hn2 : n2 ≤ 1048576) (h3 : Bls w B A3 m bs) (hm2 : m ≤ 1048576) :
    Calls Try.prog 14 #[.agg #[.slice A n c, .slice A2 n2 c2], .slice A3 m c3] w (RetDiskCode w R1 R2 cd) := by
  by_cases hlong : 4096 < bs.length
  case pos =>
    rw [crP_long hlong] at HP
    cases HP
    have hd0 : decide (4096 < (m : Int)) = true := by rw [h3.1] at hlong; simp; omega
    clear hlong
    go_enter Try.func14, Try.ntmps14
    go_wp2
    exact bodyPost_ret (v := .tuple #[.agg #[.slice none 0 0, .slice none 0 0], .int .i64 2]) (by simp [results, Try.results14, go_sem]) rfl ⟨none, 0, 0, none, 0, 0, rfl, SlS.nil _ _, SlW.nil _ _, ((Nx.refl _).alloc _).alloc _⟩
  have hd0 : decide (4096 < (m : Int)) = false := by have := h3.1; simp; omega
  cases hok : diskB ss ws with
  | false =>
    rw [crP_bad hlong hok] at HP
    cases HP
    have HO := Lib.hid hok
    clear hok
    go_enter Try.func14, Try.ntmps14
    go_wp2_with fail
    have b0 := (Box.new w 26 #[.slice A n c, .slice A2 n2 c2]).alloc (.cells #[.slice none 0 0, .slice none 0 0] 26)
    have r0 := Box.new (w.alloc (.cells #[.slice A n c, .slice A2 n2 c2] 26)) 26 #[.slice none 0 0, .slice none 0 0]
    have hnx0 := ((Nx.refl w).alloc (.cells #[.slice A n c, .slice A2 n2 c2] 26)).alloc (.cells #[.slice none 0 0, .slice none 0 0] 26)
    simp only [World.size_alloc] at r0
    generalize (w.alloc (.cells #[.slice A n c, .slice A2 n2 c2] 26)).alloc (.cells #[.slice none 0 0, .slice none 0 0] 26) = W at *
    refine (isRight_c A A2 n c n2 c2 B ss ws _ (h.below hnx0 hB) (h2.below hnx0 hB) (Nat.le_trans hB hnx0.size) (by omega) (by omega)).mono ?_
    rintro e w1 ⟨rfl, hnx1⟩
    rw [HO.out]
    have b1 := b0.nx hnx1
    have r1 := r0.nx hnx1
    have hx1 := hnx0.trans hnx1
    clear b0 r0 hnx0 hnx1
    have c0 := b1.c0
    have c1 := b1.c1
    have s0 := r1.c0
    have s1 := r1.c1
    have f0 := r1.frozen 0
    have f1 := r1.frozen 1
    go_wp2
    obtain ⟨q0, q1, hSf, hWf, hxf⟩ := fin_box 0 0 r1 (SlS.nil w1 (w.heap.size + 1 + 1)) (SlW.nil w1 (w.heap.size + 1 + 1)) (by omega) (by omega) hx1 (by omega)
    generalize (w1.setCell ⟨w.heap.size + 1, 0, none⟩ (.slice none 0 0)).setCell ⟨w.heap.size + 1, 1, none⟩ (.slice none 0 0) = Wf at *
    exact bodyPost_ret (v := .tuple #[.agg #[.slice none 0 0, .slice none 0 0], .int .i64 1]) (by simp [results, Try.results14, go_sem, q0, q1]) rfl ⟨none, 0, 0, none, 0, 0, rfl, hSf, hWf, hxf⟩

  | true =>
  rw [crP_ok hlong hok, h2.1] at HP
  cases HP
  have HO := Lib.hid hok
  have hn64 : 64 = n := by have := (diskB_len64 hok).1; rw [h.1] at this; exact this.symm
  subst hn64
  have hn80 : n2 ≤ 80 := by have := (diskB_len64 hok).2.1; rw [h2.1] at this; exact this
  have HW := Lib.hid (diskB_len64 hok).2.2.2
  clear hok
  rcases Nat.eq_zero_or_pos m with hm0 | hmp
  · subst hm0
    go_enter Try.func14, Try.ntmps14
    go_wp2_with fail
    have b0 := (Box.new w 26 #[.slice A 64 c, .slice A2 n2 c2]).alloc (.cells #[.slice none 0 0, .slice none 0 0] 26)
    have r0 := Box.new (w.alloc (.cells #[.slice A 64 c, .slice A2 n2 c2] 26)) 26 #[.slice none 0 0, .slice none 0 0]
    have hnx0 := ((Nx.refl w).alloc (.cells #[.slice A 64 c, .slice A2 n2 c2] 26)).alloc (.cells #[.slice none 0 0, .slice none 0 0] 26)
    simp only [World.size_alloc] at r0
    generalize (w.alloc (.cells #[.slice A 64 c, .slice A2 n2 c2] 26)).alloc (.cells #[.slice none 0 0, .slice none 0 0] 26) = W at *
    refine (isRight_c A A2 64 c n2 c2 B ss ws _ (h.below hnx0 hB) (h2.below hnx0 hB) (Nat.le_trans hB hnx0.size) (by omega) (by omega)).mono ?_
    rintro e w1 ⟨rfl, hnx1⟩
    rw [HO.out]
    have b1 := b0.nx hnx1
    have r1 := r0.nx hnx1
    have hx1 := hnx0.trans hnx1
    clear b0 r0 hnx0 hnx1
    have c0 := b1.c0
    have c1 := b1.c1
    have s0 := r1.c0
    have s1 := r1.c1
    have f0 := r1.frozen 0
    have f1 := r1.frozen 1
    go_wp2_with fail
    clear s0 s1 f0 f1
    have k0 := Box.new w1 4 #[.bool false]
    have hxk := hx1.alloc (.cells #[.bool false] 4)
    have hk : Bls (w1.alloc (.cells #[.bool false] 4)) (w1.alloc (.cells #[.bool false] 4)).heap.size (some ⟨w1.heap.size, 0, none⟩) 1 [false] := box_bls k0
    have hl1 : w1.heap.size ≤ (w1.alloc (.cells #[.bool false] 4)).heap.size := by simp
    have hnk := (Nx.refl w1).alloc (.cells #[.bool false] 4)
    generalize w1.alloc (.cells #[.bool false] 4) = w2 at *
    refine (settled_c A A2 (some ⟨w1.heap.size, 0, none⟩) c n2 c2 1 1 _ ss ws [false] _ ((h.below hxk hB).more (Nat.le_trans hB hxk.size)) ((h2.below hxk hB).more (Nat.le_trans hB hxk.size)) hk (Nat.le_refl _) hn80 (by omega) (by omega) HW.out).mono ?_
    rintro e w3 ⟨A5, n5, c5, A6, n6, c6, rfl, hS3, hW4, hx3'⟩
    rw [show settleTo (kpOf [false]) ss ws n2 = settleTo (kpC bs) ss ws n2 from settle_congr (fun i => by rw [kpC_zero (by rw [h3.1])]; simp [kpOf, Nat.mod_one]) _ _ _] at hS3
    have hx3 := hnk.trans hx3'
    clear c0 c1
    have r3 := r1.nx hx3
    have s0 := r3.c0
    have s1 := r3.c1
    have f0 := r3.frozen 0
    have f1 := r3.frozen 1
    have l1 := r1.lt
    go_wp2
    obtain ⟨q0, q1, hSf, hWf, hxf⟩ := fin_box c5 c6 r3 hS3 hW4 (by omega) (by omega) (hx1.trans hx3) (by omega)
    generalize (w3.setCell ⟨w.heap.size + 1, 0, none⟩ (.slice A5 n5 c5)).setCell ⟨w.heap.size + 1, 1, none⟩ (.slice A6 n6 c6) = Wf at *
    exact bodyPost_ret (v := .tuple #[.agg #[.slice A5 n5 c5, .slice A6 n6 c6], .int .i64 0]) (by simp [results, Try.results14, go_sem, q0, q1]) rfl ⟨A5, n5, c5, A6, n6, c6, rfl, hSf, hWf, hxf⟩
  · have hm1 : ((m : Int) == 0) = false := beq_eq_false_iff_ne.2 (by omega)
    go_enter Try.func14, Try.ntmps14
    go_wp2_with fail
    have b0 := (Box.new w 26 #[.slice A 64 c, .slice A2 n2 c2]).alloc (.cells #[.slice none 0 0, .slice none 0 0] 26)
    have r0 := Box.new (w.alloc (.cells #[.slice A 64 c, .slice A2 n2 c2] 26)) 26 #[.slice none 0 0, .slice none 0 0]
    have hnx0 := ((Nx.refl w).alloc (.cells #[.slice A 64 c, .slice A2 n2 c2] 26)).alloc (.cells #[.slice none 0 0, .slice none 0 0] 26)
    simp only [World.size_alloc] at r0
    generalize (w.alloc (.cells #[.slice A 64 c, .slice A2 n2 c2] 26)).alloc (.cells #[.slice none 0 0, .slice none 0 0] 26) = W at *
    refine (isRight_c A A2 64 c n2 c2 B ss ws _ (h.below hnx0 hB) (h2.below hnx0 hB) (Nat.le_trans hB hnx0.size) (by omega) (by omega)).mono ?_
    rintro e w1 ⟨rfl, hnx1⟩
    rw [HO.out]
    have b1 := b0.nx hnx1
    have r1 := r0.nx hnx1
    have hx1 := hnx0.trans hnx1
    clear b0 r0 hnx0 hnx1
    have c0 := b1.c0
    have c1 := b1.c1
    have s0 := r1.c0
    have s1 := r1.c1
    have f0 := r1.frozen 0
    have f1 := r1.frozen 1
    go_wp2_with fail
    clear s0 s1 f0 f1
    refine (settled_c A A2 A3 c n2 c2 m c3 B ss ws bs _ (h.below hx1 hB) (h2.below hx1 hB) (h3.below hx1 hB) (Nat.le_trans hB hx1.size) hn80 hmp hm2 HW.out).mono ?_
    rintro e w3 ⟨A5, n5, c5, A6, n6, c6, rfl, hS3, hW4, hx3⟩
    rw [show settleTo (kpOf bs) ss ws n2 = settleTo (kpC bs) ss ws n2 from settle_congr (fun i => by rw [kpC_pos (by rw [h3.1]; exact hmp)]; rfl) _ _ _] at hS3
    clear c0 c1
    have r3 := r1.nx hx3
    have s0 := r3.c0
    have s1 := r3.c1
    have f0 := r3.frozen 0
    have f1 := r3.frozen 1
    have l1 := r1.lt
    go_wp2
    obtain ⟨q0, q1, hSf, hWf, hxf⟩ := fin_box c5 c6 r3 hS3 hW4 (by omega) (by omega) (hx1.trans hx3) (by omega)
    generalize (w3.setCell ⟨w.heap.size + 1, 0, none⟩ (.slice A5 n5 c5)).setCell ⟨w.heap.size + 1, 1, none⟩ (.slice A6 n6 c6) = Wf at *
    exact bodyPost_ret (v := .tuple #[.agg #[.slice A5 n5 c5, .slice A6 n6 c6], .int .i64 0]) (by simp [results, Try.results14, go_sem, q0, q1]) rfl ⟨A5, n5, c5, A6, n6, c6, rfl, hSf, hWf, hxf⟩

set_option maxRecDepth 100000 in
set_option maxHeartbeats 2000000 in
theorem specCrashDisk_r (A A2 : Option Addr) (n c n2 c2 B : Nat) (ss : List ByteArray) (ws : List (Int × ByteArray)) (A3 : Option Addr) (m c3 : Nat) (bs : List Bool) (w : World) (R1 : List ByteArray) (R2 : List (Int × ByteArray)) (cd : Int) (HP : crP ss ws bs = ((R1, R2), cd)) (h : Strs w B A n ss) (h2 : Wrs w B A2 n2 ws) (hB : B ≤ w.heap.size) (hn : n ≤ 1048576) (hn2 : n2 ≤ 1048576) (h3 : Bls w B A3 m bs) (hm2 : m ≤ 1048576) :
    Calls Try.prog 16 #[.agg #[.slice A n c, .slice A2 n2 c2], .slice A3 m c3] w (RetDiskCode w R1 R2 cd) := by
  by_cases hlong : 4096 < bs.length
  case pos =>
    rw [crP_long hlong] at HP
    cases HP
    have hd0 : decide (4096 < (m : Int)) = true := by rw [h3.1] at hlong; simp; omega
    clear hlong
    go_enter Try.func16, Try.ntmps16
    go_wp2
    exact bodyPost_ret (v := .tuple #[.agg #[.slice none 0 0, .slice none 0 0], .int .i64 2]) (by simp [results, Try.results16, go_sem]) rfl ⟨none, 0, 0, none, 0, 0, rfl, SlS.nil _ _, SlW.nil _ _, ((Nx.refl _).alloc _).alloc _⟩
  have hd0 : decide (4096 < (m : Int)) = false := by have := h3.1; simp; omega
  cases hok : diskB ss ws with
  | false =>
    rw [crP_bad hlong hok] at HP
    cases HP
    have HO := Lib.hid hok
    clear hok
    go_enter Try.func16, Try.ntmps16
    go_wp2_with fail
    have b0 := (Box.new w 26 #[.slice A n c, .slice A2 n2 c2]).alloc (.cells #[.slice none 0 0, .slice none 0 0] 26)
    have r0 := Box.new (w.alloc (.cells #[.slice A n c, .slice A2 n2 c2] 26)) 26 #[.slice none 0 0, .slice none 0 0]
    have hnx0 := ((Nx.refl w).alloc (.cells #[.slice A n c, .slice A2 n2 c2] 26)).alloc (.cells #[.slice none 0 0, .slice none 0 0] 26)
    simp only [World.size_alloc] at r0
    generalize (w.alloc (.cells #[.slice A n c, .slice A2 n2 c2] 26)).alloc (.cells #[.slice none 0 0, .slice none 0 0] 26) = W at *
    refine (specDiskOK_c A A2 n c n2 c2 B ss ws _ (h.below hnx0 hB) (h2.below hnx0 hB) (Nat.le_trans hB hnx0.size) (by omega) (by omega)).mono ?_
    rintro e w1 ⟨rfl, hnx1⟩
    rw [HO.out]
    have b1 := b0.nx hnx1
    have r1 := r0.nx hnx1
    have hx1 := hnx0.trans hnx1
    clear b0 r0 hnx0 hnx1
    have c0 := b1.c0
    have c1 := b1.c1
    have s0 := r1.c0
    have s1 := r1.c1
    have f0 := r1.frozen 0
    have f1 := r1.frozen 1
    go_wp2
    obtain ⟨q0, q1, hSf, hWf, hxf⟩ := fin_box 0 0 r1 (SlS.nil w1 (w.heap.size + 1 + 1)) (SlW.nil w1 (w.heap.size + 1 + 1)) (by omega) (by omega) hx1 (by omega)
    generalize (w1.setCell ⟨w.heap.size + 1, 0, none⟩ (.slice none 0 0)).setCell ⟨w.heap.size + 1, 1, none⟩ (.slice none 0 0) = Wf at *
    exact bodyPost_ret (v := .tuple #[.agg #[.slice none 0 0, .slice none 0 0], .int .i64 1]) (by simp [results, Try.results16, go_sem, q0, q1]) rfl ⟨none, 0, 0, none, 0, 0, rfl, hSf, hWf, hxf⟩

  | true =>
  rw [crP_ok hlong hok, h2.1] at HP
  cases HP
  have HO := Lib.hid hok
  have hn64 : 64 = n := by have := (diskB_len64 hok).1; rw [h.1] at this; exact this.symm
  subst hn64
  have hn80 : n2 ≤ 80 := by have := (diskB_len64 hok).2.1; rw [h2.1] at this; exact this
  have HW := Lib.hid (diskB_len64 hok).2.2.2
  clear hok
  go_enter Try.func16, Try.ntmps16
  go_wp2_with fail
  have b0 := (Box.new w 26 #[.slice A 64 c, .slice A2 n2 c2]).alloc (.cells #[.slice none 0 0, .slice none 0 0] 26)
  have r0 := Box.new (w.alloc (.cells #[.slice A 64 c, .slice A2 n2 c2] 26)) 26 #[.slice none 0 0, .slice none 0 0]
  have hnx0 := ((Nx.refl w).alloc (.cells #[.slice A 64 c, .slice A2 n2 c2] 26)).alloc (.cells #[.slice none 0 0, .slice none 0 0] 26)
  simp only [World.size_alloc] at r0
  generalize (w.alloc (.cells #[.slice A 64 c, .slice A2 n2 c2] 26)).alloc (.cells #[.slice none 0 0, .slice none 0 0] 26) = W at *
  refine (specDiskOK_c A A2 64 c n2 c2 B ss ws _ (h.below hnx0 hB) (h2.below hnx0 hB) (Nat.le_trans hB hnx0.size) (by omega) (by omega)).mono ?_
  rintro e w1 ⟨rfl, hnx1⟩
  rw [HO.out]
  have b1 := b0.nx hnx1
  have r1 := r0.nx hnx1
  have hx1 := hnx0.trans hnx1
  clear b0 r0 hnx0 hnx1
  have c0 := b1.c0
  have c1 := b1.c1
  have s0 := r1.c0
  have s1 := r1.c1
  have f0 := r1.frozen 0
  have f1 := r1.frozen 1
  go_wp2_with fail
  clear s0 s1 f0 f1
  refine (l01Crash_c A A2 c n2 c2 B A3 m c3 bs ss ws _ (h.below hx1 hB) (h2.below hx1 hB) (h3.below hx1 hB) hm2 (Nat.le_trans hB hx1.size) hn80 HW.out).mono ?_
  rintro e w3 ⟨A5, n5, c5, A6, n6, c6, rfl, hS3, hW4, hx3⟩
  clear c0 c1
  have r3 := r1.nx hx3
  have s0 := r3.c0
  have s1 := r3.c1
  have f0 := r3.frozen 0
  have f1 := r3.frozen 1
  have l1 := r1.lt
  go_wp2
  obtain ⟨q0, q1, hSf, hWf, hxf⟩ := fin_box c5 c6 r3 hS3 hW4 (by omega) (by omega) (hx1.trans hx3) (by omega)
  generalize (w3.setCell ⟨w.heap.size + 1, 0, none⟩ (.slice A5 n5 c5)).setCell ⟨w.heap.size + 1, 1, none⟩ (.slice A6 n6 c6) = Wf at *
  exact bodyPost_ret (v := .tuple #[.agg #[.slice A5 n5 c5, .slice A6 n6 c6], .int .i64 0]) (by simp [results, Try.results16, go_sem, q0, q1]) rfl ⟨A5, n5, c5, A6, n6, c6, rfl, hSf, hWf, hxf⟩
end Go.Proofs.Ytccapcadgjlmkaa
