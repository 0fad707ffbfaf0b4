/-
  Contracts of WriteSector, as the model and as the program have it: both answer the same disk and the same code, in new memory.
  Conditions: the disk can be read, and holds at most 1048575 elements of a kind.
-/
import Derived.Test.YtccapcadgjlmkaaBase
import Derived.Test.YtccapcadgjlmkaaDok
import Derived.Test.YtccapcadgjlmkaaCp
import Derived.Test.YtccapcadgjlmkaaSw
namespace Go.Proofs.Ytccapcadgjlmkaa
set_option linter.unusedVariables false
open Go.RowKit

/-- The answer of WriteSector: what the disk holds, and the code. -/
def wrP (ss : List ByteArray) (ws : List (Int × ByteArray)) (a : Int) (t : ByteArray) : (List ByteArray × List (Int × ByteArray)) × Int :=
  if 65536 < t.size then (([], []), 2) else if diskB ss ws = false then (([], []), 1) else if secB a = false then (([], []), 4) else if 300 < t.size then ((ss, ws), 8)
  else if ws.length = 80 then ((ss, ws), 7) else ((ss, ws ++ [(a, t)]), 0)
section
variable {ss : List ByteArray} {ws : List (Int × ByteArray)} {a : Int} {t : ByteArray}
theorem wrP_long (h : 65536 < t.size) : wrP ss ws a t = (([], []), 2) := by unfold wrP; rw [if_pos h]
theorem wrP_bad (h : ¬ 65536 < t.size) (h1 : diskB ss ws = false) : wrP ss ws a t = (([], []), 1) := by unfold wrP; rw [if_neg h, if_pos h1]
theorem wrP_range (h : ¬ 65536 < t.size) (h1 : diskB ss ws = true) (h2 : secB a = false) : wrP ss ws a t = (([], []), 4) := by unfold wrP; rw [if_neg h, if_neg (by simp [h1]), if_pos h2]
theorem wrP_size (h : ¬ 65536 < t.size) (h1 : diskB ss ws = true) (h2 : secB a = true) (h3 : 300 < t.size) : wrP ss ws a t = ((ss, ws), 8) := by unfold wrP; rw [if_neg h, if_neg (by simp [h1]), if_neg (by simp [h2]), if_pos h3]
theorem wrP_full (h : ¬ 65536 < t.size) (h1 : diskB ss ws = true) (h2 : secB a = true) (h3 : ¬ 300 < t.size) (h4 : ws.length = 80) : wrP ss ws a t = ((ss, ws), 7) := by unfold wrP; rw [if_neg h, if_neg (by simp [h1]), if_neg (by simp [h2]), if_neg h3, if_pos h4]
theorem wrP_ok (h : ¬ 65536 < t.size) (h1 : diskB ss ws = true) (h2 : secB a = true) (h3 : ¬ 300 < t.size) (h4 : ws.length ≠ 80) : wrP ss ws a t = ((ss, ws ++ [(a, t)]), 0) := by unfold wrP; rw [if_neg h, if_neg (by simp [h1]), if_neg (by simp [h2]), if_neg h3, if_neg h4]
end

set_option maxRecDepth 100000 in
set_option maxHeartbeats 2000000 in
theorem implWriteSector_c (A A2 : Option Addr) (n c n2 c2 B : Nat) (ss : List ByteArray) (ws : List (Int × ByteArray)) (a : Int) (t : ByteArray) (w : World) (h : Strs w B A n ss) (h2 : Wrs w B A2 n2 ws) (hB : B ≤ w.heap.size) (hn : n ≤ 1048576) (hn2 : n2 ≤ 1048576) (ht : t.size ≤ 2 ^ 63 - 1) :
    Calls Try.prog 11 #[.agg #[.slice A n c, .slice A2 n2 c2], .int .i64 a, .string t] w (RetDiskCode w (wrP ss ws a t).1.1 (wrP ss ws a t).1.2 (wrP ss ws a t).2) := by
  by_cases hlong : 65536 < t.size
  case pos =>
    rw [wrP_long hlong]
    have hd0 : decide (65536 < (t.size : Int)) = true := by simp; omega
    go_enter Try.func11, Try.ntmps11
    go_wp2
    exact bodyPost_ret (v := .tuple #[.agg #[.slice none 0 0, .slice none 0 0], .int .i64 2]) (by simp [results, Try.results11, go_sem]) rfl ⟨none, 0, 0, none, 0, 0, rfl, SlS.nil _ _, SlW.nil _ _, ((Nx.refl _).alloc _).alloc _⟩
  have hd0 : decide (65536 < (t.size : Int)) = false := by simp; omega
  cases hok : diskB ss ws with
  | false =>
    rw [wrP_bad hlong hok]
    have HO := Lib.hid hok
    clear hok
    go_enter Try.func11, Try.ntmps11
    go_wp2_with fail
    have b0 := (Box.new w 26 #[.slice A n c, .slice A2 n2 c2]).alloc (.cells #[.slice none 0 0, .slice none 0 0] 26)
    have r0 := Box.new (w.alloc (.cells #[.slice A n c, .slice A2 n2 c2] 26)) 26 #[.slice none 0 0, .slice none 0 0]
    have hnx0 := ((Nx.refl w).alloc (.cells #[.slice A n c, .slice A2 n2 c2] 26)).alloc (.cells #[.slice none 0 0, .slice none 0 0] 26)
    simp only [World.size_alloc] at r0
    generalize (w.alloc (.cells #[.slice A n c, .slice A2 n2 c2] 26)).alloc (.cells #[.slice none 0 0, .slice none 0 0] 26) = W at *
    refine (isRight_c A A2 n c n2 c2 B ss ws _ (h.below hnx0 hB) (h2.below hnx0 hB) (Nat.le_trans hB hnx0.size) (by omega) (by omega)).mono ?_
    rintro e w1 ⟨rfl, hnx1⟩
    rw [HO.out]
    have b1 := b0.nx hnx1
    have r1 := r0.nx hnx1
    have hx1 := hnx0.trans hnx1
    clear b0 r0 hnx0 hnx1
    have c0 := b1.c0
    have c1 := b1.c1
    have s0 := r1.c0
    have s1 := r1.c1
    have f0 := r1.frozen 0
    have f1 := r1.frozen 1
    go_wp2
    obtain ⟨q0, q1, hSf, hWf, hxf⟩ := fin_box 0 0 r1 (SlS.nil w1 (w.heap.size + 1 + 1)) (SlW.nil w1 (w.heap.size + 1 + 1)) (by omega) (by omega) hx1 (by omega)
    generalize (w1.setCell ⟨w.heap.size + 1, 0, none⟩ (.slice none 0 0)).setCell ⟨w.heap.size + 1, 1, none⟩ (.slice none 0 0) = Wf at *
    exact bodyPost_ret (v := .tuple #[.agg #[.slice none 0 0, .slice none 0 0], .int .i64 1]) (by simp [results, Try.results11, go_sem, q0, q1]) rfl ⟨none, 0, 0, none, 0, 0, rfl, hSf, hWf, hxf⟩

  | true =>
  have HO := Lib.hid hok
  have hn64 : n ≤ 64 := by have := (diskB_len64 hok).1; rw [h.1] at this; omega
  have hn80 : n2 ≤ 80 := by have := (diskB_len64 hok).2.1; rw [h2.1] at this; exact this
  cases hsec : secB a with
  | false =>
    rw [wrP_range hlong hok hsec]
    have HS := Lib.hid hsec
    clear hok hsec
    go_enter Try.func11, Try.ntmps11
    go_wp2_with fail
    have b0 := (Box.new w 26 #[.slice A n c, .slice A2 n2 c2]).alloc (.cells #[.slice none 0 0, .slice none 0 0] 26)
    have r0 := Box.new (w.alloc (.cells #[.slice A n c, .slice A2 n2 c2] 26)) 26 #[.slice none 0 0, .slice none 0 0]
    have hnx0 := ((Nx.refl w).alloc (.cells #[.slice A n c, .slice A2 n2 c2] 26)).alloc (.cells #[.slice none 0 0, .slice none 0 0] 26)
    simp only [World.size_alloc] at r0
    generalize (w.alloc (.cells #[.slice A n c, .slice A2 n2 c2] 26)).alloc (.cells #[.slice none 0 0, .slice none 0 0] 26) = W at *
    refine (isRight_c A A2 n c n2 c2 B ss ws _ (h.below hnx0 hB) (h2.below hnx0 hB) (Nat.le_trans hB hnx0.size) (by omega) (by omega)).mono ?_
    rintro e w1 ⟨rfl, hnx1⟩
    rw [HO.out]
    have b1 := b0.nx hnx1
    have r1 := r0.nx hnx1
    have hx1 := hnx0.trans hnx1
    clear b0 r0 hnx0 hnx1
    have c0 := b1.c0
    have c1 := b1.c1
    have s0 := r1.c0
    have s1 := r1.c1
    have f0 := r1.frozen 0
    have f1 := r1.frozen 1
    go_wp2_with fail
    refine (isSector_c _ _).mono ?_
    rintro e w2 ⟨rfl, rfl⟩
    rw [HS.out]
    go_wp2
    obtain ⟨q0, q1, hSf, hWf, hxf⟩ := fin_box 0 0 r1 (SlS.nil w1 (w.heap.size + 1 + 1)) (SlW.nil w1 (w.heap.size + 1 + 1)) (by omega) (by omega) hx1 (by omega)
    generalize (w1.setCell ⟨w.heap.size + 1, 0, none⟩ (.slice none 0 0)).setCell ⟨w.heap.size + 1, 1, none⟩ (.slice none 0 0) = Wf at *
    exact bodyPost_ret (v := .tuple #[.agg #[.slice none 0 0, .slice none 0 0], .int .i64 4]) (by simp [results, Try.results11, go_sem, q0, q1]) rfl ⟨none, 0, 0, none, 0, 0, rfl, hSf, hWf, hxf⟩

  | true =>
  have HS := Lib.hid hsec
  by_cases h300 : 300 < t.size
  case pos =>
    rw [wrP_size hlong hok hsec h300]
    have hd1 : decide (300 < (t.size : Int)) = true := by simp; omega
    clear hok hsec
    go_enter Try.func11, Try.ntmps11
    go_wp2_with fail
    have b0 := (Box.new w 26 #[.slice A n c, .slice A2 n2 c2]).alloc (.cells #[.slice none 0 0, .slice none 0 0] 26)
    have r0 := Box.new (w.alloc (.cells #[.slice A n c, .slice A2 n2 c2] 26)) 26 #[.slice none 0 0, .slice none 0 0]
    have hnx0 := ((Nx.refl w).alloc (.cells #[.slice A n c, .slice A2 n2 c2] 26)).alloc (.cells #[.slice none 0 0, .slice none 0 0] 26)
    simp only [World.size_alloc] at r0
    generalize (w.alloc (.cells #[.slice A n c, .slice A2 n2 c2] 26)).alloc (.cells #[.slice none 0 0, .slice none 0 0] 26) = W at *
    refine (isRight_c A A2 n c n2 c2 B ss ws _ (h.below hnx0 hB) (h2.below hnx0 hB) (Nat.le_trans hB hnx0.size) (by omega) (by omega)).mono ?_
    rintro e w1 ⟨rfl, hnx1⟩
    rw [HO.out]
    have b1 := b0.nx hnx1
    have r1 := r0.nx hnx1
    have hx1 := hnx0.trans hnx1
    clear b0 r0 hnx0 hnx1
    have c0 := b1.c0
    have c1 := b1.c1
    have s0 := r1.c0
    have s1 := r1.c1
    have f0 := r1.frozen 0
    have f1 := r1.frozen 1
    go_wp2_with fail
    refine (isSector_c _ _).mono ?_
    rintro e w2 ⟨rfl, rfl⟩
    rw [HS.out]
    go_wp2_with fail
    clear s0 s1 f0 f1
    refine (copied_c A A2 n c n2 c2 B ss ws _ (h.below hx1 hB) (h2.below hx1 hB) (Nat.le_trans hB hx1.size) (by omega) (by omega)).mono ?_
    rintro e w3 ⟨A3, n3, c3, A4, n4, c4, rfl, hS3, hW4, hx3⟩
    clear c0 c1
    have r3 := r1.nx hx3
    have s0 := r3.c0
    have s1 := r3.c1
    have f0 := r3.frozen 0
    have f1 := r3.frozen 1
    have l1 := r1.lt
    go_wp2
    obtain ⟨q0, q1, hSf, hWf, hxf⟩ := fin_box c3 c4 r3 hS3 hW4 (by omega) (by omega) (hx1.trans hx3) (by omega)
    generalize (w3.setCell ⟨w.heap.size + 1, 0, none⟩ (.slice A3 n3 c3)).setCell ⟨w.heap.size + 1, 1, none⟩ (.slice A4 n4 c4) = Wf at *
    exact bodyPost_ret (v := .tuple #[.agg #[.slice A3 n3 c3, .slice A4 n4 c4], .int .i64 8]) (by simp [results, Try.results11, go_sem, q0, q1]) rfl ⟨A3, n3, c3, A4, n4, c4, rfl, hSf, hWf, hxf⟩

  have hd1 : decide (300 < (t.size : Int)) = false := by simp; omega
  by_cases h80 : n2 = 80
  case pos =>
    rw [wrP_full hlong hok hsec h300 (by rw [h2.1]; exact h80)]
    have hd2 : ((n2 : Int) == 80) = true := beq_iff_eq.2 (by omega)
    clear hok hsec h80
    go_enter Try.func11, Try.ntmps11
    go_wp2_with fail
    have b0 := (Box.new w 26 #[.slice A n c, .slice A2 n2 c2]).alloc (.cells #[.slice none 0 0, .slice none 0 0] 26)
    have r0 := Box.new (w.alloc (.cells #[.slice A n c, .slice A2 n2 c2] 26)) 26 #[.slice none 0 0, .slice none 0 0]
    have hnx0 := ((Nx.refl w).alloc (.cells #[.slice A n c, .slice A2 n2 c2] 26)).alloc (.cells #[.slice none 0 0, .slice none 0 0] 26)
    simp only [World.size_alloc] at r0
    generalize (w.alloc (.cells #[.slice A n c, .slice A2 n2 c2] 26)).alloc (.cells #[.slice none 0 0, .slice none 0 0] 26) = W at *
    refine (isRight_c A A2 n c n2 c2 B ss ws _ (h.below hnx0 hB) (h2.below hnx0 hB) (Nat.le_trans hB hnx0.size) (by omega) (by omega)).mono ?_
    rintro e w1 ⟨rfl, hnx1⟩
    rw [HO.out]
    have b1 := b0.nx hnx1
    have r1 := r0.nx hnx1
    have hx1 := hnx0.trans hnx1
    clear b0 r0 hnx0 hnx1
    have c0 := b1.c0
    have c1 := b1.c1
    have s0 := r1.c0
    have s1 := r1.c1
    have f0 := r1.frozen 0
    have f1 := r1.frozen 1
    go_wp2_with fail
    refine (isSector_c _ _).mono ?_
    rintro e w2 ⟨rfl, rfl⟩
    rw [HS.out]
    go_wp2_with fail
    clear s0 s1 f0 f1
    refine (copied_c A A2 n c n2 c2 B ss ws _ (h.below hx1 hB) (h2.below hx1 hB) (Nat.le_trans hB hx1.size) (by omega) (by omega)).mono ?_
    rintro e w3 ⟨A3, n3, c3, A4, n4, c4, rfl, hS3, hW4, hx3⟩
    clear c0 c1
    have r3 := r1.nx hx3
    have s0 := r3.c0
    have s1 := r3.c1
    have f0 := r3.frozen 0
    have f1 := r3.frozen 1
    have l1 := r1.lt
    go_wp2
    obtain ⟨q0, q1, hSf, hWf, hxf⟩ := fin_box c3 c4 r3 hS3 hW4 (by omega) (by omega) (hx1.trans hx3) (by omega)
    generalize (w3.setCell ⟨w.heap.size + 1, 0, none⟩ (.slice A3 n3 c3)).setCell ⟨w.heap.size + 1, 1, none⟩ (.slice A4 n4 c4) = Wf at *
    exact bodyPost_ret (v := .tuple #[.agg #[.slice A3 n3 c3, .slice A4 n4 c4], .int .i64 7]) (by simp [results, Try.results11, go_sem, q0, q1]) rfl ⟨A3, n3, c3, A4, n4, c4, rfl, hSf, hWf, hxf⟩

  rw [wrP_ok hlong hok hsec h300 (by rw [h2.1]; exact h80)]
  have hd2 : ((n2 : Int) == 80) = false := beq_eq_false_iff_ne.2 (by omega)
  clear hok hsec
  go_enter Try.func11, Try.ntmps11
  go_wp2_with fail
  have b0 := (Box.new w 26 #[.slice A n c, .slice A2 n2 c2]).alloc (.cells #[.slice none 0 0, .slice none 0 0] 26)
  have r0 := Box.new (w.alloc (.cells #[.slice A n c, .slice A2 n2 c2] 26)) 26 #[.slice none 0 0, .slice none 0 0]
  have hnx0 := ((Nx.refl w).alloc (.cells #[.slice A n c, .slice A2 n2 c2] 26)).alloc (.cells #[.slice none 0 0, .slice none 0 0] 26)
  simp only [World.size_alloc] at r0
  generalize (w.alloc (.cells #[.slice A n c, .slice A2 n2 c2] 26)).alloc (.cells #[.slice none 0 0, .slice none 0 0] 26) = W at *
  refine (isRight_c A A2 n c n2 c2 B ss ws _ (h.below hnx0 hB) (h2.below hnx0 hB) (Nat.le_trans hB hnx0.size) (by omega) (by omega)).mono ?_
  rintro e w1 ⟨rfl, hnx1⟩
  rw [HO.out]
  have b1 := b0.nx hnx1
  have r1 := r0.nx hnx1
  have hx1 := hnx0.trans hnx1
  clear b0 r0 hnx0 hnx1
  have c0 := b1.c0
  have c1 := b1.c1
  have s0 := r1.c0
  have s1 := r1.c1
  have f0 := r1.frozen 0
  have f1 := r1.frozen 1
  go_wp2_with fail
  refine (isSector_c _ _).mono ?_
  rintro e w2 ⟨rfl, rfl⟩
  rw [HS.out]
  go_wp2_with fail
  clear s0 s1 f0 f1
  refine (written_c A A2 n c n2 c2 B ss ws a t _ (h.below hx1 hB) (h2.below hx1 hB) (Nat.le_trans hB hx1.size) (by omega) (by omega)).mono ?_
  rintro e w3 ⟨A3, n3, c3, A4, n4, c4, rfl, hS3, hW4, hx3⟩
  clear c0 c1
  have r3 := r1.nx hx3
  have s0 := r3.c0
  have s1 := r3.c1
  have f0 := r3.frozen 0
  have f1 := r3.frozen 1
  have l1 := r1.lt
  go_wp2
  obtain ⟨q0, q1, hSf, hWf, hxf⟩ := fin_box c3 c4 r3 hS3 hW4 (by omega) (by omega) (hx1.trans hx3) (by omega)
  generalize (w3.setCell ⟨w.heap.size + 1, 0, none⟩ (.slice A3 n3 c3)).setCell ⟨w.heap.size + 1, 1, none⟩ (.slice A4 n4 c4) = Wf at *
  exact bodyPost_ret (v := .tuple #[.agg #[.slice A3 n3 c3, .slice A4 n4 c4], .int .i64 0]) (by simp [results, Try.results11, go_sem, q0, q1]) rfl ⟨A3, n3, c3, A4, n4, c4, rfl, hSf, hWf, hxf⟩

theorem wrP_len {ss R1 : List ByteArray} {ws R2 : List (Int × ByteArray)} {a cd : Int} {t : ByteArray} (h : wrP ss ws a t = ((R1, R2), cd)) : R1.length ≤ 64 ∧ R2.length ≤ 81 := by
  unfold wrP at h
  by_cases h1 : 65536 < t.size
  · rw [if_pos h1] at h; cases h; simp
  rw [if_neg h1] at h
  cases hok : diskB ss ws with
  | false => rw [if_pos hok] at h; cases h; simp
  | true =>
    have hl := diskB_len64 hok
    rw [if_neg (by simp [hok])] at h
    by_cases h2 : secB a = false
    · rw [if_pos h2] at h; cases h; simp
    rw [if_neg h2] at h
    by_cases h3 : 300 < t.size
    · rw [if_pos h3] at h; cases h; exact ⟨by omega, by omega⟩
    rw [if_neg h3] at h
    by_cases h4 : ws.length = 80
    · rw [if_pos h4] at h; cases h; exact ⟨by omega, by omega⟩
    rw [if_neg h4] at h; cases h; exact ⟨by omega, by rw [List.length_append]; have := hl.2.1; simp; omega⟩
theorem implWriteSector_r (A A2 : Option Addr) (n c n2 c2 B : Nat) (ss : List ByteArray) (ws : List (Int × ByteArray)) (a : Int) (t : ByteArray) (w : World) (R1 : List ByteArray) (R2 : List (Int × ByteArray)) (cd : Int) (HP : wrP ss ws a t = ((R1, R2), cd)) (h : Strs w B A n ss) (h2 : Wrs w B A2 n2 ws) (hB : B ≤ w.heap.size) (hn : n ≤ 1048576) (hn2 : n2 ≤ 1048576) (ht : t.size ≤ 2 ^ 63 - 1) :
    Calls Try.prog 11 #[.agg #[.slice A n c, .slice A2 n2 c2], .int .i64 a, .string t] w (RetDiskCode w R1 R2 cd) := by
  have := implWriteSector_c A A2 n c n2 c2 B ss ws a t w h h2 hB hn hn2 ht
  rw [HP] at this
  exact this
end Go.Proofs.Ytccapcadgjlmkaa
