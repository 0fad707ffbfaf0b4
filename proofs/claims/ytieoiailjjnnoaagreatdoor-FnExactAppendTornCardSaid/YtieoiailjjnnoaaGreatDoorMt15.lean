/-
  Texts of the proof, in their order.
  Conditions: those of each.
-/
import Derived.Test.YtieoiailjjnnoaaGreatDoorMt14
import Derived.Outline
import Derived.Deep.QuietTactic
import Derived.BigQuiet
import Derived.Deep.Slices
import Derived.ChangeSame
import Derived.Lib.SmallJoins
import Derived.SliceStrings
import Derived.Deep.Fields
import Derived.Test.YtieoiailjjnnoaaGreatDoorRows
import Derived.LaidHandle
import Derived.Lay
import Derived.HandedShaped
import Derived.Shelf.Vars
import Derived.ProofKit
import Derived.LaidMore
import Derived.OpenShut
import Derived.OpenVars
import Derived.Stop.Joined
import Derived.Stop.LaidTwo
import Derived.Lib.LaidTab
import Derived.LaidLaws
import Derived.ShutString
import Derived.ChangeOld
import Derived.Below
namespace Go.Proofs.YtieoiailjjnnoaaGreatDoor
set_option linter.unusedVariables false
set_option maxRecDepth 100000
set_option maxHeartbeats 16000000
open Go.RowKit
theorem settle_congr {kp kp' : Nat → Bool} (h : ∀ i, kp i = kp' i) (ss : List BA) (ws : List (Int × BA)) (k : Nat) : settleTo kp ss ws k = settleTo kp' ss ws k := by
 rw [funext h]
theorem box_bls {w : World} {g : Nat} {t : TypeId} {b : Bool} (h : Box w g t #[.bool b]) : Bls w w.heap.size (some ⟨g, 0, none⟩) 1 [b] := ⟨rfl, fun _ => ⟨g, 0, rfl, h.lt, fun i hi => by
 obtain rfl : i = 0 := by omega
 exact h.cell 0⟩⟩
def crP (ss : List BA) (ws : List (Int × BA)) (bs : List Bool) : (List BA × List (Int × BA)) × Int :=
 if 4096 < bs.length then (([], []), 2) else if diskB ss ws = false then (([], []), 1) else ((settleTo (kpC bs) ss ws ws.length, []), 0)
section
variable {ss R1 : List BA} {ws R2 : List (Int × BA)} {bs : List Bool} {cd : Int}
theorem crP_long (h : 4096 < bs.length) : crP ss ws bs = (([], []), 2) := by unfold crP; rw [if_pos h]
theorem crP_bad (h0 : ¬ 4096 < bs.length) (h : diskB ss ws = false) : crP ss ws bs = (([], []), 1) := by unfold crP; rw [if_neg h0, if_pos h]
theorem crP_ok (h0 : ¬ 4096 < bs.length) (h : diskB ss ws = true) : crP ss ws bs = ((settleTo (kpC bs) ss ws ws.length, []), 0) := by unfold crP; rw [if_neg h0, if_neg (by simp [h])]
end
theorem flushed_c (A A2 : Option Addr) (c n2 c2 B : Nat) (ss : List BA) (ws : List (Int × BA)) (w : World) (h : Strs w B A 64 ss) (h2 : Wrs w B A2 n2 ws) (hB : B ≤ w.heap.size) (hn2 : n2 ≤ 80) (hall : ws.all wOk = true) :
 Calls Tryz.prog 56 #[.agg #[.slice A 64 c, .slice A2 n2 c2]] w (RetDisk w (settleTo kpAll ss ws n2) []) := by
 have HA := qh hall
 clear hall
 go_enter Tryz.func56, Tryz.ntmps56
 go_wp2_with fail
 have r1 := Box.new (w.alloc (.cells #[.slice A 64 c, .slice A2 n2 c2] 35)) 35 #[nsl, nsl]
 have hx1 := ((Nx.refl w).alloc (.cells #[.slice A 64 c, .slice A2 n2 c2] 35)).alloc (.cells #[nsl, nsl] 35)
 have hz1 : w.heap.size + 1 + 1 = ((w.alloc (.cells #[.slice A 64 c, .slice A2 n2 c2] 35)).alloc (.cells #[nsl, nsl] 35)).heap.size := by simp
 rw [hz1]
 simp only [World.size_alloc] at r1
 generalize (w.alloc (.cells #[.slice A 64 c, .slice A2 n2 c2] 35)).alloc (.cells #[nsl, nsl] 35) = w1 at *
 have k0 := Box.new w1 4 #[.bool true]
 have hxk := hx1.alloc (.cells #[.bool true] 4)
 have hk : Bls (w1.alloc (.cells #[.bool true] 4)) (w1.alloc (.cells #[.bool true] 4)).heap.size (some ⟨w1.heap.size, 0, none⟩) 1 [true] := box_bls k0
 have hl1 : w1.heap.size ≤ (w1.alloc (.cells #[.bool true] 4)).heap.size := by simp
 have hnk := (Nx.refl w1).alloc (.cells #[.bool true] 4)
 generalize w1.alloc (.cells #[.bool true] 4) = w2 at *
 refine (settled_c A A2 (some ⟨w1.heap.size, 0, none⟩) c n2 c2 1 1 _ ss ws [true] _ ((h.below hxk hB).more (ntr hB hxk.size)) ((h2.below hxk hB).more (ntr hB hxk.size)) hk nle hn2 (by omega) (by omega) HA.out).mono ?_
 rintro e w3 ⟨A5, n5, c5, A6, n6, c6, rfl, hS3, hW4, hx3'⟩
 rw [show settleTo (kpOf [true]) ss ws n2 = settleTo (kpAll) ss ws n2 from settle_congr (fun i => by simp [kpOf, kpAll, Nat.mod_one]) _ _ _] at hS3
 have hx3 := hnk.trans hx3'
 have r3 := r1.nx hx3
 have s0 := r3.c0
 have s1 := r3.c1
 have f0 := r3.frozen 0
 have f1 := r3.frozen 1
 have l1 := r1.lt
 go_wp2
 obtain ⟨q0, q1, hSf, hWf, hxf⟩ := fin_box c5 c6 r3 hS3 hW4 (by omega) (by omega) (hx1.trans hx3) (by omega)
 generalize (w3.setCell ⟨w.heap.size + 1, 0, none⟩ (.slice A5 n5 c5)).setCell ⟨w.heap.size + 1, 1, none⟩ (.slice A6 n6 c6) = Wf at *
 exact bodyPost_ret (v := .agg #[.slice A5 n5 c5, .slice A6 n6 c6]) (by simp [results, Tryz.results56, go_sem, q0, q1]) rfl ⟨A5, n5, c5, A6, n6, c6, rfl, hSf, hWf, hxf⟩
theorem implCrashDisk_r (A A2 : Option Addr) (n c n2 c2 B : Nat) (ss : List BA) (ws : List (Int × BA)) (A3 : Option Addr) (m c3 : Nat) (bs : List Bool) (w : World) (R1 : List BA) (R2 : List (Int × BA)) (cd : Int) (HP : crP ss ws bs = ((R1, R2), cd)) (h : Strs w B A n ss) (h2 : Wrs w B A2 n2 ws) (hB : B ≤ w.heap.size) (hn : n ≤ 1048576) (hn2 : n2 ≤ 1048576) (h3 : Bls w B A3 m bs) (hm2 : m ≤ 1048576) :
 Calls Tryz.prog 79 #[.agg #[.slice A n c, .slice A2 n2 c2], .slice A3 m c3] w (RetDiskCode w R1 R2 cd) := by
 by_cases hlong : 4096 < bs.length
 case pos =>
  rw [crP_long hlong] at HP
  cases HP
  have hd0 : decide (4096 < (m : Int)) = true := by rw [h3.1] at hlong; simp; omega
  clear hlong
  go_enter Tryz.func79, Tryz.ntmps79
  go_wp2
  exact bodyPost_ret (v := .tuple #[.agg #[nsl, nsl], ii 2]) (by simp [results, Tryz.results79, go_sem]) rfl ⟨none, 0, 0, none, 0, 0, rfl, SlS.nil _ _, SlW.nil _ _, ((Nx.refl _).alloc _).alloc _⟩
 have hd0 : decide (4096 < (m : Int)) = false := by have := h3.1; simp; omega
 cases hok : diskB ss ws with
 | false =>
   rw [crP_bad hlong hok] at HP
   cases HP
   have HO := qh hok
   clear hok
   go_enter Tryz.func79, Tryz.ntmps79
   go_wp2_with fail
   have b0 := (Box.new w 35 #[.slice A n c, .slice A2 n2 c2]).alloc (.cells #[nsl, nsl] 35)
   have r0 := Box.new (w.alloc (.cells #[.slice A n c, .slice A2 n2 c2] 35)) 35 #[nsl, nsl]
   have hnx0 := ((Nx.refl w).alloc (.cells #[.slice A n c, .slice A2 n2 c2] 35)).alloc (.cells #[nsl, nsl] 35)
   simp only [World.size_alloc] at r0
   generalize (w.alloc (.cells #[.slice A n c, .slice A2 n2 c2] 35)).alloc (.cells #[nsl, nsl] 35) = W at *
   refine (isRight_c A A2 n c n2 c2 B ss ws _ (h.below hnx0 hB) (h2.below hnx0 hB) (ntr hB hnx0.size) (by omega) (by omega)).mono ?_
   rintro e w1 ⟨rfl, hnx1⟩
   rw [HO.out]
   have b1 := b0.nx hnx1
   have r1 := r0.nx hnx1
   have hx1 := hnx0.trans hnx1
   clear b0 r0 hnx0 hnx1
   have c0 := b1.c0
   have c1 := b1.c1
   have s0 := r1.c0
   have s1 := r1.c1
   have f0 := r1.frozen 0
   have f1 := r1.frozen 1
   go_wp2
   obtain ⟨q0, q1, hSf, hWf, hxf⟩ := fin_box 0 0 r1 (SlS.nil w1 (w.heap.size + 1 + 1)) (SlW.nil w1 (w.heap.size + 1 + 1)) (by omega) (by omega) hx1 (by omega)
   generalize (w1.setCell ⟨w.heap.size + 1, 0, none⟩ (nsl)).setCell ⟨w.heap.size + 1, 1, none⟩ (nsl) = Wf at *
   exact bodyPost_ret (v := .tuple #[.agg #[nsl, nsl], ii 1]) (by simp [results, Tryz.results79, go_sem, q0, q1]) rfl ⟨none, 0, 0, none, 0, 0, rfl, hSf, hWf, hxf⟩
 | true =>
 rw [crP_ok hlong hok, h2.1] at HP
 cases HP
 have HO := qh hok
 have hn64 : 64 = n := by have := (diskB_len64 hok).1; rw [h.1] at this; exact this.symm
 subst hn64
 have hn80 : n2 ≤ 80 := by have := (diskB_len64 hok).2.1; rw [h2.1] at this; exact this
 have HW := qh (diskB_len64 hok).2.2.2
 clear hok
 rcases Nat.eq_zero_or_pos m with hm0 | hmp
 · subst hm0
   go_enter Tryz.func79, Tryz.ntmps79
   go_wp2_with fail
   have b0 := (Box.new w 35 #[.slice A 64 c, .slice A2 n2 c2]).alloc (.cells #[nsl, nsl] 35)
   have r0 := Box.new (w.alloc (.cells #[.slice A 64 c, .slice A2 n2 c2] 35)) 35 #[nsl, nsl]
   have hnx0 := ((Nx.refl w).alloc (.cells #[.slice A 64 c, .slice A2 n2 c2] 35)).alloc (.cells #[nsl, nsl] 35)
   simp only [World.size_alloc] at r0
   generalize (w.alloc (.cells #[.slice A 64 c, .slice A2 n2 c2] 35)).alloc (.cells #[nsl, nsl] 35) = W at *
   refine (isRight_c A A2 64 c n2 c2 B ss ws _ (h.below hnx0 hB) (h2.below hnx0 hB) (ntr hB hnx0.size) (by omega) (by omega)).mono ?_
   rintro e w1 ⟨rfl, hnx1⟩
   rw [HO.out]
   have b1 := b0.nx hnx1
   have r1 := r0.nx hnx1
   have hx1 := hnx0.trans hnx1
   clear b0 r0 hnx0 hnx1
   have c0 := b1.c0
   have c1 := b1.c1
   have s0 := r1.c0
   have s1 := r1.c1
   have f0 := r1.frozen 0
   have f1 := r1.frozen 1
   go_wp2_with fail
   clear s0 s1 f0 f1
   have k0 := Box.new w1 4 #[.bool false]
   have hxk := hx1.alloc (.cells #[.bool false] 4)
   have hk : Bls (w1.alloc (.cells #[.bool false] 4)) (w1.alloc (.cells #[.bool false] 4)).heap.size (some ⟨w1.heap.size, 0, none⟩) 1 [false] := box_bls k0
   have hl1 : w1.heap.size ≤ (w1.alloc (.cells #[.bool false] 4)).heap.size := by simp
   have hnk := (Nx.refl w1).alloc (.cells #[.bool false] 4)
   generalize w1.alloc (.cells #[.bool false] 4) = w2 at *
   refine (settled_c A A2 (some ⟨w1.heap.size, 0, none⟩) c n2 c2 1 1 _ ss ws [false] _ ((h.below hxk hB).more (ntr hB hxk.size)) ((h2.below hxk hB).more (ntr hB hxk.size)) hk nle hn80 (by omega) (by omega) HW.out).mono ?_
   rintro e w3 ⟨A5, n5, c5, A6, n6, c6, rfl, hS3, hW4, hx3'⟩
   rw [show settleTo (kpOf [false]) ss ws n2 = settleTo (kpC bs) ss ws n2 from settle_congr (fun i => by rw [kpC_zero (by rw [h3.1])]; simp [kpOf, Nat.mod_one]) _ _ _] at hS3
   have hx3 := hnk.trans hx3'
   clear c0 c1
   have r3 := r1.nx hx3
   have s0 := r3.c0
   have s1 := r3.c1
   have f0 := r3.frozen 0
   have f1 := r3.frozen 1
   have l1 := r1.lt
   go_wp2
   obtain ⟨q0, q1, hSf, hWf, hxf⟩ := fin_box c5 c6 r3 hS3 hW4 (by omega) (by omega) (hx1.trans hx3) (by omega)
   generalize (w3.setCell ⟨w.heap.size + 1, 0, none⟩ (.slice A5 n5 c5)).setCell ⟨w.heap.size + 1, 1, none⟩ (.slice A6 n6 c6) = Wf at *
   exact bodyPost_ret (v := .tuple #[.agg #[.slice A5 n5 c5, .slice A6 n6 c6], ii 0]) (by simp [results, Tryz.results79, go_sem, q0, q1]) rfl ⟨A5, n5, c5, A6, n6, c6, rfl, hSf, hWf, hxf⟩
 · have hm1 : ((m : Int) == 0) = false := beq_eq_false_iff_ne.2 (by omega)
   go_enter Tryz.func79, Tryz.ntmps79
   go_wp2_with fail
   have b0 := (Box.new w 35 #[.slice A 64 c, .slice A2 n2 c2]).alloc (.cells #[nsl, nsl] 35)
   have r0 := Box.new (w.alloc (.cells #[.slice A 64 c, .slice A2 n2 c2] 35)) 35 #[nsl, nsl]
   have hnx0 := ((Nx.refl w).alloc (.cells #[.slice A 64 c, .slice A2 n2 c2] 35)).alloc (.cells #[nsl, nsl] 35)
   simp only [World.size_alloc] at r0
   generalize (w.alloc (.cells #[.slice A 64 c, .slice A2 n2 c2] 35)).alloc (.cells #[nsl, nsl] 35) = W at *
   refine (isRight_c A A2 64 c n2 c2 B ss ws _ (h.below hnx0 hB) (h2.below hnx0 hB) (ntr hB hnx0.size) (by omega) (by omega)).mono ?_
   rintro e w1 ⟨rfl, hnx1⟩
   rw [HO.out]
   have b1 := b0.nx hnx1
   have r1 := r0.nx hnx1
   have hx1 := hnx0.trans hnx1
   clear b0 r0 hnx0 hnx1
   have c0 := b1.c0
   have c1 := b1.c1
   have s0 := r1.c0
   have s1 := r1.c1
   have f0 := r1.frozen 0
   have f1 := r1.frozen 1
   go_wp2_with fail
   clear s0 s1 f0 f1
   refine (settled_c A A2 A3 c n2 c2 m c3 B ss ws bs _ (h.below hx1 hB) (h2.below hx1 hB) (h3.below hx1 hB) (ntr hB hx1.size) hn80 hmp hm2 HW.out).mono ?_
   rintro e w3 ⟨A5, n5, c5, A6, n6, c6, rfl, hS3, hW4, hx3⟩
   rw [show settleTo (kpOf bs) ss ws n2 = settleTo (kpC bs) ss ws n2 from settle_congr (fun i => by rw [kpC_pos (by rw [h3.1]; exact hmp)]; rfl) _ _ _] at hS3
   clear c0 c1
   have r3 := r1.nx hx3
   have s0 := r3.c0
   have s1 := r3.c1
   have f0 := r3.frozen 0
   have f1 := r3.frozen 1
   have l1 := r1.lt
   go_wp2
   obtain ⟨q0, q1, hSf, hWf, hxf⟩ := fin_box c5 c6 r3 hS3 hW4 (by omega) (by omega) (hx1.trans hx3) (by omega)
   generalize (w3.setCell ⟨w.heap.size + 1, 0, none⟩ (.slice A5 n5 c5)).setCell ⟨w.heap.size + 1, 1, none⟩ (.slice A6 n6 c6) = Wf at *
   exact bodyPost_ret (v := .tuple #[.agg #[.slice A5 n5 c5, .slice A6 n6 c6], ii 0]) (by simp [results, Tryz.results79, go_sem, q0, q1]) rfl ⟨A5, n5, c5, A6, n6, c6, rfl, hSf, hWf, hxf⟩
theorem RetDiskCode.mk {w w' : World} {ss : List BA} {ws : List (Int × BA)} {R : (List BA × List (Int × BA)) × Int} {k : Int} {A A2 : Option Addr} {n c n2 c2 : Nat} (hR : R = ((ss, ws), k)) (hS : SlS w' w.heap.size A n ss) (hW : SlW w' w.heap.size A2 n2 ws) (hn : Nx w w') :
 RetDiskCode w R.1.1 R.1.2 R.2 (.returned (.tuple #[.agg #[.slice A n c, .slice A2 n2 c2], ii k])) w' := by subst hR; exact ⟨A, n, c, A2, n2, c2, rfl, hS, hW, hn⟩
theorem RetDiskCode.zero {w w' : World} {R : (List BA × List (Int × BA)) × Int} {k : Int} (hR : R = (([], []), k)) (hn : Nx w w') :
 RetDiskCode w R.1.1 R.1.2 R.2 (.returned (.tuple #[.agg #[nsl, nsl], ii k])) w' := by
 subst hR; exact ⟨none, 0, 0, none, 0, 0, rfl, ⟨rfl, fun h => absurd h (by omega)⟩, ⟨rfl, fun h => absurd h (by omega)⟩, hn⟩
section
variable {ss : List BA} {ws : List (Int × BA)} {g b p t : Int} {xs : List Int} {ms : List Mrk}
end
def RetWS (w : World) (ss : List BA) (ws : List (Int × BA)) (b p t : Int) (xs : List Int) (ms : List Mrk) (o : Option (U6 × Int)) (e : Ending) (w' : World) : Prop :=
 Nx w w' ∧ (o = none → e = .returned (.tuple #[.agg #[nsl, nsl], slE 1 19])) ∧ (∀ u s, o = some (u, s) → u.1 = 999999 → e = .returned (.tuple #[.agg #[nsl, nsl], slE s 7])) ∧
 ∀ u s, o = some (u, s) → u.1 ≠ 999999 → ∃ A n c A2 n2 c2, e = .returned (.tuple #[.agg #[.slice A n c, .slice A2 n2 c2], .nilIface]) ∧ SlS w' w.heap.size A n (settleTo kpAll ss ws ws.length) ∧ SlW w' w.heap.size A2 n2 ([] ++ [(1 - s, nxtS u b p t xs ms)])
section
variable {w w' : World} {ss : List BA} {ws : List (Int × BA)} {b p t : Int} {xs : List Int} {ms : List Mrk} {o : Option (U6 × Int)} {u : U6} {s : Int}
theorem RetWS.no (h : o = none) (hn : Nx w w') : RetWS w ss ws b p t xs ms o (.returned (.tuple #[.agg #[nsl, nsl], slE 1 19])) w' :=
 ⟨hn, (fun _ => rfl), (fun u s h2 => by rw [h] at h2; cases h2), fun u s h2 => by rw [h] at h2; cases h2⟩
theorem RetWS.full (h : o = some (u, s)) (h9 : u.1 = 999999) (hn : Nx w w') : RetWS w ss ws b p t xs ms o (.returned (.tuple #[.agg #[nsl, nsl], slE s 7])) w' :=
 ⟨hn, (fun h2 => by rw [h] at h2; cases h2), (fun u' s' h2 _ => by rw [h] at h2; cases h2; rfl), fun u' s' h2 h3 => by rw [h] at h2; cases h2; exact absurd h9 h3⟩
theorem RetWS.yes {A A2 : Option Addr} {n c n2 c2 : Nat} {R1 : List BA} (h : o = some (u, s)) (h9 : u.1 ≠ 999999 ∧ R1 = settleTo kpAll ss ws ws.length) (hS : SlS w' w.heap.size A n R1) (hW : SlW w' w.heap.size A2 n2 ([] ++ [(1 - s, nxtS u b p t xs ms)])) (hn : Nx w w') :
 RetWS w ss ws b p t xs ms o (.returned (.tuple #[.agg #[.slice A n c, .slice A2 n2 c2], .nilIface])) w' :=
 ⟨hn, (fun h2 => by rw [h] at h2; cases h2), (fun u' s' h2 h3 => by rw [h] at h2; cases h2; exact absurd h3 h9.1), fun u' s' h2 _ => by rw [h] at h2; cases h2; rw [h9.2] at hS; exact ⟨A, n, c, A2, n2, c2, rfl, hS, hW⟩⟩
end
theorem withSuper_c (A A2 : Option Addr) (n c n2 c2 B : Nat) (ss : List BA) (ws : List (Int × BA)) (g b p t : Int) (Ax Am : Option Addr) (cx cm : Nat) (xs : List Int) (ms : List Mrk) (w : World) (a0 a1 : Addr) (h : Strs w B A n ss) (h2 : Wrs w B A2 n2 ws) (hs : Ins w B Ax xs) (hmk : Mks w B Am ms) (hB : B ≤ w.heap.size) (hD : diskB ss ws = true) (hO : superB g b p t xs ms = true)
 (hE : Er w a0 a1) (hM : Mx w) (hEt : Et w) (hT : Tab w) :
 Calls Tryz.prog 54 #[.agg #[.slice A n c, .slice A2 n2 c2], .agg #[ii g, ii b, ii p, ii t, .slice Ax xs.length cx, .slice Am ms.length cm]] w (RetWS w ss ws b p t xs ms (newU (rdU (readP ss ws 0)) (rdU (readP ss ws 1)))) := by
 have HD := qh hD
 have HO := qh hO
 clear hD hO
 obtain rfl : n = 64 := by rw [← h.1]; exact (diskB_len64 HD.out).1
 have HL64 := qh (diskB_len64 HD.out).1
 have hn80 : n2 ≤ 80 := by rw [← h2.1]; exact (diskB_len64 HD.out).2.1
 have HWo := qh (diskB_len64 HD.out).2.2.2
 have e0 : Box (((w.alloc (.cells #[.slice A 64 c, .slice A2 n2 c2] 35)).alloc (.cells #[ii g, ii b, ii p, ii t, .slice Ax xs.length cx, .slice Am ms.length cm] 26)).alloc (.cells #[nsl, nsl] 35)) w.heap.size 35 #[.slice A 64 c, .slice A2 n2 c2] := ((Box.new w _ _).alloc _).alloc _
 have b0 : Box (((w.alloc (.cells #[.slice A 64 c, .slice A2 n2 c2] 35)).alloc (.cells #[ii g, ii b, ii p, ii t, .slice Ax xs.length cx, .slice Am ms.length cm] 26)).alloc (.cells #[nsl, nsl] 35)) (w.heap.size + 1) 26 #[ii g, ii b, ii p, ii t, .slice Ax xs.length cx, .slice Am ms.length cm] := by have := (Box.new (w.alloc (.cells #[.slice A 64 c, .slice A2 n2 c2] 35)) 26 #[ii g, ii b, ii p, ii t, .slice Ax xs.length cx, .slice Am ms.length cm]).alloc (.cells #[nsl, nsl] 35); rwa [World.size_alloc] at this
 have r0 : Box (((w.alloc (.cells #[.slice A 64 c, .slice A2 n2 c2] 35)).alloc (.cells #[ii g, ii b, ii p, ii t, .slice Ax xs.length cx, .slice Am ms.length cm] 26)).alloc (.cells #[nsl, nsl] 35)) (w.heap.size + 1 + 1) 35 #[nsl, nsl] := by have := Box.new ((w.alloc (.cells #[.slice A 64 c, .slice A2 n2 c2] 35)).alloc (.cells #[ii g, ii b, ii p, ii t, .slice Ax xs.length cx, .slice Am ms.length cm] 26)) 35 #[nsl, nsl]; rwa [World.size_alloc, World.size_alloc] at this
 have hx0 := (((Nx.refl w).alloc (.cells #[.slice A 64 c, .slice A2 n2 c2] 35)).alloc (.cells #[ii g, ii b, ii p, ii t, .slice Ax xs.length cx, .slice Am ms.length cm] 26)).alloc (.cells #[nsl, nsl] 35)
 go_enter Tryz.func54, Tryz.ntmps54
 go_wp2_with fail
 generalize (((w.alloc (.cells #[.slice A 64 c, .slice A2 n2 c2] 35)).alloc (.cells #[ii g, ii b, ii p, ii t, .slice Ax xs.length cx, .slice Am ms.length cm] 26)).alloc (.cells #[nsl, nsl] 35)) = W at *
 obtain ⟨gS, HgS⟩ : ∃ g, Hid (w.heap.size + 1 = g) := ⟨_, rfl⟩
 obtain ⟨gD, HgD⟩ : ∃ g, Hid (w.heap.size + 1 + 1 = g) := ⟨_, rfl⟩
 have hgS : w.heap.size ≤ gS := by have := HgS.out; omega
 have hgD : w.heap.size ≤ gD := by have := HgD.out; omega
 have hneE : w.heap.size ≠ gD := by have := HgD.out; omega
 have hneE2 : w.heap.size ≠ gS := by have := HgS.out; omega
 have hneS : gS ≠ gD := by have := HgS.out; have := HgD.out; omega
 rw [HgD.out, HgS.out]
 rw [HgS.out] at b0
 rw [HgD.out] at r0
 refine (newestSuper_c A A2 64 c n2 c2 B ss ws _ a0 a1 (h.below hx0 hB) (h2.below hx0 hB) (ntr hB hx0.size) (by omega) (by omega) (by omega) (by have := readP_size HD.out 0; omega) (by have := readP_size HD.out 1; omega) (hE.nx hx0) (hM.nx hx0) (hEt.nx hx0)).mono ?_
 rintro e w2 ⟨hnx2, h1', h3⟩
 have e2 := e0.nx hnx2
 have b2 := b0.nx hnx2
 have r2 := r0.nx hnx2
 have hx2 := hx0.trans hnx2
 clear e0 b0 r0 hx0 hnx2
 cases hu : newU (rdU (readP ss ws 0)) (rdU (readP ss ws 1)) with
 | none =>
   have he := h1' hu
   unfold slE at he
   subst he
   have HU := qh hu
   clear h1' h3 hu
   have m0 := r2.c0
   have m1 := r2.c1
   have mf0 := r2.frozen 0
   have mf1 := r2.frozen 1
   have mlt := r2.lt
   go_wp2
   have rq := ((r2.set0 (nsl)).set1 (nsl))
   have hnf := ((hx2.setCell (p := ⟨gD, 0, none⟩) hgD (nsl)).setCell (p := ⟨gD, 1, none⟩) hgD (nsl))
   replace rq := rq.alloc (.cells #[ii 0, ii 0, ii 0, ii 0, nsl, nsl] 26)
   replace hnf := hnf.alloc (.cells #[ii 0, ii 0, ii 0, ii 0, nsl, nsl] 26)
   change bodyPost _ _ _ _ _ (World.alloc ((w2.setCell ⟨gD, 0, none⟩ (nsl)).setCell ⟨gD, 1, none⟩ (nsl)) (.cells #[ii 0, ii 0, ii 0, ii 0, nsl, nsl] 26))
   generalize (World.alloc ((w2.setCell ⟨gD, 0, none⟩ (nsl)).setCell ⟨gD, 1, none⟩ (nsl)) (.cells #[ii 0, ii 0, ii 0, ii 0, nsl, nsl] 26)) = Wf at *
   have q0 := rq.c0
   have q1 := rq.c1
   exact bodyPost_ret (v := .tuple #[.agg #[nsl, nsl], .iface 159 (.agg #[ii 1, ii 19])]) (by simp [results, Tryz.results54, go_sem, q0, q1]) rfl (RetWS.no HU.out hnf)
 | some us =>
   obtain ⟨u, s⟩ := us
   have hsl := newU_slot hu
   have hgn := newU_gen rfl rfl hu
   obtain ⟨Bx, dx, Bm, dm, he, hfit⟩ := h3 u s hu
   have HU := qh hu
   clear h1' h3 hfit hu
   by_cases h9 : u.1 = 999999
   · have H9 := qh h9
     obtain ⟨ug, ub, up, uq, uxs, ums⟩ := u
     have h9' : (ug == 999999) = true := beq_iff_eq.2 h9
     replace he : e = .returned (.tuple #[.agg #[ii ug, ii ub, ii up, ii uq, .slice Bx uxs.length dx, .slice Bm ums.length dm], ii s, .nilIface]) := he
     subst he
     clear h9
     have m0 := r2.c0
     have m1 := r2.c1
     have mf0 := r2.frozen 0
     have mf1 := r2.frozen 1
     have mlt := r2.lt
     go_wp2
     have rq := ((r2.set0 (nsl)).set1 (nsl))
     have hnf := ((hx2.setCell (p := ⟨gD, 0, none⟩) hgD (nsl)).setCell (p := ⟨gD, 1, none⟩) hgD (nsl))
     replace rq := rq.alloc (.cells #[ii ug, ii ub, ii up, ii uq, .slice Bx uxs.length dx, .slice Bm ums.length dm] 26)
     replace hnf := hnf.alloc (.cells #[ii ug, ii ub, ii up, ii uq, .slice Bx uxs.length dx, .slice Bm ums.length dm] 26)
     change bodyPost _ _ _ _ _ (World.alloc ((w2.setCell ⟨gD, 0, none⟩ (nsl)).setCell ⟨gD, 1, none⟩ (nsl)) (.cells #[ii ug, ii ub, ii up, ii uq, .slice Bx uxs.length dx, .slice Bm ums.length dm] 26))
     generalize (World.alloc ((w2.setCell ⟨gD, 0, none⟩ (nsl)).setCell ⟨gD, 1, none⟩ (nsl)) (.cells #[ii ug, ii ub, ii up, ii uq, .slice Bx uxs.length dx, .slice Bm ums.length dm] 26)) = Wf at *
     have q0 := rq.c0
     have q1 := rq.c1
     exact bodyPost_ret (v := .tuple #[.agg #[nsl, nsl], .iface 159 (.agg #[ii s, ii 7])]) (by simp [results, Tryz.results54, go_sem, q0, q1]) rfl (RetWS.full HU.out H9.out hnf)
   · have H9 : Hid (u.1 ≠ 999999 ∧ settleTo kpAll ss ws n2 = settleTo kpAll ss ws ws.length) := qh ⟨h9, by rw [h2.1]⟩
     have HOK' := qh (nxt_super HO.out hgn h9)
     obtain ⟨ug, ub, up, uq, uxs, ums⟩ := u
     have HOK : Hid (superB (ug + 1) b p t xs ms = true) := HOK'
     replace hgn : 1 ≤ ug ∧ ug ≤ 999999 := hgn
     have h9' : (ug == 999999) = false := beq_eq_false_iff_ne.2 h9
     replace he : e = .returned (.tuple #[.agg #[ii ug, ii ub, ii up, ii uq, .slice Bx uxs.length dx, .slice Bm ums.length dm], ii s, .nilIface]) := he
     subst he
     clear h9
     obtain ⟨y0, y1, y2, y3, y4, y5⟩ := b2.d6
     have yf := b2.frozen 0
     have ylt := b2.lt
     go_wp2_with fail
     have e3 := (e2.far (p := ⟨gS, 0, none⟩) hneE2 (ii (ug + 1))).alloc (.cells #[ii ug, ii ub, ii up, ii uq, .slice Bx uxs.length dx, .slice Bm ums.length dm] 26)
     have b3 := (b2.set 0 (ii (ug + 1))).alloc (.cells #[ii ug, ii ub, ii up, ii uq, .slice Bx uxs.length dx, .slice Bm ums.length dm] 26)
     have r3 := (r2.far (p := ⟨gS, 0, none⟩) hneS.symm (ii (ug + 1))).alloc (.cells #[ii ug, ii ub, ii up, ii uq, .slice Bx uxs.length dx, .slice Bm ums.length dm] 26)
     have hx3 := (hx2.setCell (p := ⟨gS, 0, none⟩) hgS (ii (ug + 1))).alloc (.cells #[ii ug, ii ub, ii up, ii uq, .slice Bx uxs.length dx, .slice Bm ums.length dm] 26)
     simp only [List.setIfInBounds_toArray, List.set_cons_zero] at b3
     clear y0 y1 y2 y3 y4 y5 yf ylt e2 b2 r2 hx2
     generalize (w2.setCell ⟨gS, 0, none⟩ (ii (ug + 1))).alloc (.cells #[ii ug, ii ub, ii up, ii uq, .slice Bx uxs.length dx, .slice Bm ums.length dm] 26) = w3 at *
     refine wp_planA (.t 0 (.t 2 (.t 4 (.c 1 (.c 3 (.c 5 (.c 6 (.c 7 (.t 8 .e))))))))) (fun w' => (w'.cell? ⟨w.heap.size, 0, none⟩ = some (.slice A 64 c) ∧ w'.cell? ⟨w.heap.size, 1, none⟩ = some (.slice A2 n2 c2)) ∧ (w'.cell? ⟨gS, 0, none⟩ = some (ii (ug + 1)) ∧ w'.cell? ⟨gS, 1, none⟩ = some (ii b) ∧ w'.cell? ⟨gS, 2, none⟩ = some (ii p) ∧ w'.cell? ⟨gS, 3, none⟩ = some (ii t) ∧ w'.cell? ⟨gS, 4, none⟩ = some (.slice Ax xs.length cx) ∧ w'.cell? ⟨gS, 5, none⟩ = some (.slice Am ms.length cm))) (by exact ⟨⟨e3.c0, e3.c1⟩, b3.d6⟩) ?_
     simp only [psOf, List.getD_cons_zero, List.getD_cons_succ]
     repeat ((first | refine HP.tk ?_ | refine HP.sk ?_); try simp only [Act.put, qqA, qqB, qqC])
     refine hPc fun K hK => ?_
     go_simp
     refine (flushed_c A A2 c n2 c2 B ss ws _ (h.below hx3.drew hB) (h2.below hx3.drew hB) (ntr hB hx3.drew.size) (by omega) HWo.out).mono ?_; rintro e w5 ⟨A5, n5, c5, A6, n6, c6, rfl, hSF, hWF, hny5⟩; obtain rfl : n5 = 64 := (by rw [← hSF.1, settleTo_len]; exact HL64.out); obtain rfl : n6 = 0 := hWF.1.symm; have e5 := e3.nx (Nx.drew_r hny5); have b5 := b3.nx (Nx.drew_r hny5); have r5 := r3.nx (Nx.drew_r hny5); have hx5 := hx3.trans (Nx.drew_r hny5)
     go_wp2_with fail
     refine hK.out _ _ (by exact ⟨⟨e5.c0, e5.c1⟩, b5.d6⟩) ?_
     clear hK K
     try simp only [Act.put, qqA, qqB, qqC]
     refine hPc fun K hK => ?_
     go_simp
     refine (otherSlot_c s _ (by rcases hsl with rfl | rfl <;> omega) (by rcases hsl with rfl | rfl <;> omega)).mono ?_; rintro e w6 ⟨rfl, hq6⟩; have hny6 : Nx w5 w6 := hq6 ▸ Nx.refl _; have e6 := e5.nx hny6; have b6 := b5.nx hny6; have r6 := r5.nx hny6; have hx6 := hx5.trans hny6; have hSF := hSF.nx hny6; have hWF := hWF.nx hny6; clear hq6
     go_wp2_with fail
     refine hK.out _ _ (by exact ⟨⟨e6.c0, e6.c1⟩, b6.d6⟩) ?_
     clear hK K
     try simp only [Act.put, qqA, qqB, qqC]
     refine hPc fun K hK => ?_
     go_simp
     refine (superText_c (ug + 1) b p t Ax Am cx cm B xs ms _ (hs.below hx6 hB) (hmk.below hx6 hB) (ntr hB hx6.size) HOK.out (hT.nx hx6)).mono ?_; rintro e w7 ⟨rfl, hny7⟩; have e7 := e6.nx hny7; have b7 := b6.nx hny7; have r7 := r6.nx hny7; have hx7 := hx6.trans hny7; have hSF := hSF.nx hny7; have hWF := hWF.nx hny7
     go_wp2_with fail
     refine hK.out _ _ (by exact ⟨⟨e7.c0, e7.c1⟩, b7.d6⟩) ?_
     clear hK K
     try simp only [Act.put, qqA, qqB, qqC]
     refine hPc fun K hK => ?_
     go_simp
     refine (written_c A5 A6 64 c5 0 c6 _ _ [] (1 - s) _ _ hSF.strs hWF.wrs nle (by omega) (by omega)).mono ?_; rintro e w8 ⟨A8, n8, c8, A9, n9, c9, rfl, hS8, hW8, hny8⟩; have hlt9 : gD < w7.heap.size := r7.lt; have e8 := e7.nx hny8; have b8 := b7.nx hny8; have r8 := r7.nx hny8; have hx8 := hx7.trans hny8
     go_wp2_with fail
     refine hK.out _ _ (by exact ⟨⟨e8.c0, e8.c1⟩, b8.d6⟩) ?_
     clear hK K
     try simp only [Act.put, qqA, qqB, qqC]
     have m0 := r8.c0
     have m1 := r8.c1
     have mf0 := r8.frozen 0
     have mf1 := r8.frozen 1
     have mlt := r8.lt
     refine hPc fun K hK => ?_
     go_simp
     refine hK.out _ _ (by exact ⟨⟨((e8.far (p := ⟨gD, 0, none⟩) hneE _).far (p := ⟨gD, 1, none⟩) hneE _).c0, ((e8.far (p := ⟨gD, 0, none⟩) hneE _).far (p := ⟨gD, 1, none⟩) hneE _).c1⟩, ((b8.far (p := ⟨gD, 0, none⟩) hneS _).far (p := ⟨gD, 1, none⟩) hneS _).d6⟩) ?_
     clear hK K
     try simp only [Act.put, qqA, qqB, qqC]
     repeat ((first | refine HP.tk ?_ | refine HP.sk ?_); try simp only [Act.put, qqA, qqB, qqC])
     refine HP.done ?_
     clear m0 m1 mf0 mf1
     go_wp2
     have rq := ((r8.set0 (.slice A8 n8 c8)).set1 (.slice A9 n9 c9))
     have hnf := ((hx8.setCell (p := ⟨gD, 0, none⟩) hgD (.slice A8 n8 c8)).setCell (p := ⟨gD, 1, none⟩) hgD (.slice A9 n9 c9))
     have hSf := ((hS8.far (p := ⟨gD, 0, none⟩) hlt9 (.slice A8 n8 c8)).far (p := ⟨gD, 1, none⟩) hlt9 (.slice A9 n9 c9))
     have hWf := ((hW8.far (p := ⟨gD, 0, none⟩) hlt9 (.slice A8 n8 c8)).far (p := ⟨gD, 1, none⟩) hlt9 (.slice A9 n9 c9))
     change bodyPost _ _ _ _ _ ((w8.setCell ⟨gD, 0, none⟩ (.slice A8 n8 c8)).setCell ⟨gD, 1, none⟩ (.slice A9 n9 c9))
     generalize ((w8.setCell ⟨gD, 0, none⟩ (.slice A8 n8 c8)).setCell ⟨gD, 1, none⟩ (.slice A9 n9 c9)) = Wf at *
     have q0 := rq.c0
     have q1 := rq.c1
     exact bodyPost_ret (v := .tuple #[.agg #[.slice A8 n8 c8, .slice A9 n9 c9], .nilIface]) (by simp [results, Tryz.results54, go_sem, q0, q1]) rfl (RetWS.yes HU.out H9.out (hSf.low (by omega)) (hWf.low (by omega)) hnf)

def AllS (ss : List BA) : Prop := ∀ k, (ss.getD k ByteArray.empty).size ≤ 2 ^ 63 - 1
def AllW (ws : List (Int × BA)) : Prop := ∀ k, (ws.getD k (0, ByteArray.empty)).2.size ≤ 2 ^ 63 - 1
theorem szStringS_c (A : Option Addr) (n c B : Nat) (ss : List BA) (left : Int) (w : World) (h : Strs w B A n ss) (hm : AllS ss) (hn : n ≤ 2 ^ 63 - 1) (h0 : 0 ≤ left) (h1 : left ≤ 1048576) :
 Calls Tryz.prog 86 #[.slice A n c, ii left] w fun e w' => e = .returned (ii (szR left (n + lenS ss))) ∧ w = w' := by
 by_cases hle : (n : Int) ≤ left
 case neg =>
  have HF := qh (szR_no (left := left) (cost := n + lenS ss) (by omega))
  have hd : decide (left - (n : Int) < 0) = true := by simp; omega
  go_enter Tryz.func86, Tryz.ntmps86
  go_wp2
  go_ret
  exact ⟨ret_int HF.out, rfl⟩
 have hd : decide (left - (n : Int) < 0) = false := by simp; omega
 go_enter Tryz.func86, Tryz.ntmps86
 go_wp2
 go_loop [1, 5] (fun l i => ∃ k : Nat, k ≤ n ∧ i = ii k ∧ (n : Int) + lenSTo ss k ≤ left ∧ l = ii (left - (n + lenSTo ss k))) (fun _ i => n - (intOf i).toNat)
 case atStart => exact ⟨0, Nat.zero_le _, rfl, by rw [lenSTo_zero]; omega, by rw [lenSTo_zero]; go_num⟩
 case round =>
  obtain ⟨k, hk, rfl, hle2, rfl⟩ := hrel
  by_cases hlt : k < n
  · obtain ⟨b, off, rfl, hb, hc⟩ := h.at_ hlt
    have hmk := hm k
    have hsu := qh (lenSTo_succ ss k (by rw [h.1]; exact hlt))
    have hle3 := qh (lenSTo_le ss (k + 1))
    generalize ss.getD k ByteArray.empty = s at *
    by_cases hg : (n : Int) + (lenSTo ss k + s.size) ≤ left
    · have hd2 : decide (left - (n + lenSTo ss k) - (s.size : Int) < 0) = false := by simp; omega
      go_wp2
      go_round
      case rel => exact ⟨k + 1, by omega, by go_num, by rw [hsu.out]; omega, by rw [hsu.out]; go_num⟩
      case measure => simp [intOf]; omega
    · have hd2 : decide (left - (n + lenSTo ss k) - (s.size : Int) < 0) = true := by simp; omega
      go_wp2
      go_ret
      exact ⟨ret_int (szR_no (by have := hsu.out; have := hle3.out; omega)), rfl⟩
  · obtain rfl : k = n := by omega
    go_wp2
    go_ret
    refine ⟨ret_int ?_, rfl⟩
    have := lenSTo_all ss
    rw [h.1] at this
    rw [this] at hle2 ⊢
    exact szR_yes hle2
theorem szWrite_c (a : Int) (s : BA) (left : Int) (w : World) (hm : s.size ≤ 2 ^ 63 - 1) (h0 : 0 ≤ left) (h1 : left ≤ 1048576) :
 Calls Tryz.prog 166 #[.agg #[ii a, .string s], ii left] w fun e w' => e = .returned (ii (szR left s.size)) ∧ Nx w w' := by
 by_cases hle : (s.size : Int) ≤ left
 · have HF := qh (szR_yes hle)
   have hd : decide (left - (s.size : Int) < 0) = false := by simp; omega
   go_enter Tryz.func166, Tryz.ntmps166
   go_wp2
   go_ret
   exact ⟨ret_int HF.out, (Nx.refl _).alloc _⟩
 · have HF := qh (szR_no (left := left) (cost := s.size) (by omega))
   have hd : decide (left - (s.size : Int) < 0) = true := by simp; omega
   go_enter Tryz.func166, Tryz.ntmps166
   go_wp2
   go_ret
   exact ⟨ret_int HF.out, (Nx.refl _).alloc _⟩
theorem szWriteS_c (A : Option Addr) (n c B : Nat) (ws : List (Int × BA)) (left : Int) (w : World) (h : Wrs w B A n ws) (hB : B ≤ w.heap.size) (hm : AllW ws) (hn : n ≤ 2 ^ 63 - 1) (h0 : 0 ≤ left) (h1 : left ≤ 1048576) :
 Calls Tryz.prog 87 #[.slice A n c, ii left] w fun e w' => e = .returned (ii (szR left (n + lenW ws))) ∧ Nx w w' := by
 by_cases hle : (n : Int) ≤ left
 case neg =>
  have HF := qh (szR_no (left := left) (cost := n + lenW ws) (by omega))
  have hd : decide (left - (n : Int) < 0) = true := by simp; omega
  go_enter Tryz.func87, Tryz.ntmps87
  go_wp2
  go_ret
  exact ⟨ret_int HF.out, Nx.refl _⟩
 have hd : decide (left - (n : Int) < 0) = false := by simp; omega
 go_enter Tryz.func87, Tryz.ntmps87
 go_wp2
 go_loopw [1, 5] (fun l i wr => ∃ k : Nat, k ≤ n ∧ i = ii k ∧ (n : Int) + lenWTo ws k ≤ left ∧ l = ii (left - (n + lenWTo ws k)) ∧ Nx w wr) (fun _ i _ => n - (intOf i).toNat)
 case atStart => exact ⟨0, Nat.zero_le _, rfl, by rw [lenWTo_zero]; omega, by rw [lenWTo_zero]; go_num, Nx.refl _⟩
 case round =>
  obtain ⟨k, hk, rfl, hle2, rfl, hnx⟩ := hrel
  by_cases hlt : k < n
  · obtain ⟨b, off, rfl, hb, hc0, hc1⟩ := (h.below hnx hB).at_ hlt
    have hmk := hm k
    have hsu := qh (lenWTo_succ ws k (by rw [h.1]; exact hlt))
    have hle3 := qh (lenWTo_le ws (k + 1))
    have hl0 := qh h.1
    generalize ws.getD k (0, ByteArray.empty) = s at *
    obtain ⟨a, s⟩ := s
    by_cases hg : (n : Int) + (lenWTo ws k + s.size) ≤ left
    · have hd2 : decide (left - (n + lenWTo ws k) - (s.size : Int) < 0) = false := by simp; omega
      go_wp2_with fail
      refine (szWrite_c a s _ _ hmk (by omega) (by omega)).mono ?_
      rintro e w1 ⟨rfl, hnx1⟩
      rw [← szR_yes (by omega)]
      go_wp2
      go_roundw
      case rel => exact ⟨k + 1, by omega, by go_num, by rw [hsu.out]; omega, by rw [hsu.out]; go_num, hnx.trans hnx1⟩
      case measure => simp [intOf]; omega
    · go_wp2_with fail
      refine (szWrite_c a s _ _ hmk (by omega) (by omega)).mono ?_
      rintro e w1 ⟨rfl, hnx1⟩
      rw [← szR_no (by omega)]
      go_wp2
      go_ret
      exact ⟨ret_int (szR_no (by have := hsu.out; have := hle3.out; omega)), hnx.trans hnx1⟩
  · obtain rfl : k = n := by omega
    go_wp2
    go_ret
    refine ⟨ret_int ?_, hnx⟩
    have := lenWTo_all ws
    rw [h.1] at this
    rw [this] at hle2 ⊢
    exact szR_yes hle2
def costD (n n2 : Nat) (ss : List BA) (ws : List (Int × BA)) : Int := (n + lenS ss) + (n2 + lenW ws)
theorem szDisk_c (A A2 : Option Addr) (n c n2 c2 B : Nat) (ss : List BA) (ws : List (Int × BA)) (left : Int) (w : World) (h : Strs w B A n ss) (h2 : Wrs w B A2 n2 ws) (hB : B ≤ w.heap.size)
 (hm : AllS ss) (hm2 : AllW ws) (hn : n ≤ 2 ^ 63 - 1) (hn2 : n2 ≤ 2 ^ 63 - 1) (h0 : 0 ≤ left) (h1 : left ≤ 1048576) :
 Calls Tryz.prog 33 #[.agg #[.slice A n c, .slice A2 n2 c2], ii left] w fun e w' => e = .returned (ii (szR left (costD n n2 ss ws))) ∧ Nx w w' := by
 by_cases hle : (n : Int) + lenS ss ≤ left
 case neg =>
  have HF := qh (szR_no (left := left) (cost := costD n n2 ss ws) (by unfold costD; omega))
  go_enter Tryz.func33, Tryz.ntmps33
  go_wp2_with fail
  refine (szStringS_c A n c B ss left _ (h.below ((Nx.refl w).alloc _) hB) hm hn h0 h1).mono ?_
  rintro e w1 ⟨rfl, rfl⟩
  rw [← szR_no (by omega)]
  go_wp2
  go_ret
  exact ⟨ret_int HF.out, (Nx.refl _).alloc _⟩
 go_enter Tryz.func33, Tryz.ntmps33
 go_wp2_with fail
 refine (szStringS_c A n c B ss left _ (h.below ((Nx.refl w).alloc _) hB) hm hn h0 h1).mono ?_
 rintro e w1 ⟨rfl, rfl⟩
 rw [← szR_yes hle]
 have hd : decide (left - (n + lenS ss) < 0) = false := by simp; omega
 go_wp2_with fail
 refine (szWriteS_c A2 n2 c2 B ws _ _ (h2.below ((Nx.refl w).alloc _) hB) (ntr hB (by simp)) hm2 hn2 (by omega) (by omega)).mono ?_
 rintro e w1 ⟨rfl, hnx⟩
 by_cases hle2 : (n2 : Int) + lenW ws ≤ left - (n + lenS ss)
 · rw [← szR_yes hle2]
   have hd : decide (left - (n + lenS ss) - (n2 + lenW ws) < 0) = false := by simp; omega
   go_wp2
   go_ret
   refine ⟨ret_int ?_, ((Nx.refl _).alloc _).trans hnx⟩
   rw [← szR_yes (by unfold costD; omega)]
   unfold costD
   omega
 · rw [← szR_no (by omega)]
   go_wp2
   go_ret
   exact ⟨ret_int (szR_no (by unfold costD; omega)), ((Nx.refl _).alloc _).trans hnx⟩
def Shp (w w' : World) : Prop := ∀ g t m f, Own w g t m f → ∃ f', Own w' g t m f'
theorem Shp.refl (w : World) : Shp w w := fun _ _ _ f h => ⟨f, h⟩
theorem Shp.trans {a b c : World} (h : Shp a b) (k : Shp b c) : Shp a c := fun g t m f ho => by
 obtain ⟨f', h'⟩ := h g t m f ho; exact k g t m f' h'
theorem Own.setAny {w : World} {g m : Nat} {t : TypeId} {f : Nat → Value} (h : Own w g t m f) (i : Nat) (v : Value) : ∃ f', Own (w.setCell ⟨g, i, none⟩ v) g t m f' := by
 obtain ⟨cs, h, hm, hc⟩ := h
 refine ⟨fun j => if j = i then v else f j, cs.setIfInBounds i v, ?_, by simpa using hm, fun j hj => ?_⟩
 · simp [World.setCell, Array.getElem?_modify, h]
 · rw [Array.getElem?_setIfInBounds]
   by_cases e : i = j
   · subst e; rw [if_pos rfl, if_pos (by omega)]; simp
   · rw [if_neg e, hc j hj]; show some (f j) = some (if j = i then v else f j); rw [if_neg (fun h : j = i => e h.symm)]
theorem Shp.set {a w : World} (h : Shp a w) (g i : Nat) (v : Value) : Shp a (w.setCell ⟨g, i, none⟩ v) := fun g' t m f ho => by
 obtain ⟨f', h'⟩ := h g' t m f ho
 by_cases e : g' = g
 · subst e; exact h'.setAny i v
 · exact ⟨f', h'.far (by exact e) v⟩
theorem Shp.nx {a w w' : World} (h : Shp a w) (hb : Nx w w') : Shp a w' := fun g t m f ho => by
 obtain ⟨f', h'⟩ := h g t m f ho; exact ⟨f', h'.nx hb⟩
def Ty2 (w w' : World) : Prop := ∀ g t m f, t ≠ 122 → t ≠ 192 → Own w g t m f → Own w' g t m f
theorem Ty2.refl (w : World) : Ty2 w w := fun _ _ _ _ _ _ h => h
theorem Ty2.trans {a b c : World} (h : Ty2 a b) (k : Ty2 b c) : Ty2 a c := fun g t m f h1 h2 ho => k g t m f h1 h2 (h g t m f h1 h2 ho)
theorem Ty2.set {a w : World} (h : Ty2 a w) {g i m : Nat} {f : Nat → Value} (ho : Own w g 122 m f) (v : Value) : Ty2 a (w.setCell ⟨g, i, none⟩ v) := fun g' t' m' f' h1 h2 h' =>
 (h g' t' m' f' h1 h2 h').far (Own.ne_type ho (h g' t' m' f' h1 h2 h') h1) v
theorem Sr.own {w w' : World} {lo hi m : Nat} {A : Option Addr} {t : TypeId} {f : Nat → Value} (h : Sr w lo hi A t m f) (hk : ∀ g m f, Own w g t m f → Own w' g t m f) : Sr w' lo hi A t m f := fun hm => by
 obtain ⟨g, e, h1, h2, ho⟩ := h hm
 exact ⟨g, e, h1, h2, hk _ _ _ ho⟩
def Only (n : Nat) (A : Option Addr) (w w' : World) : Prop := ∀ g t m f, (0 < n → A ≠ some ⟨g, 0, none⟩) → Own w g t m f → Own w' g t m f
theorem Only.refl (n : Nat) (A : Option Addr) (w : World) : Only n A w w := fun _ _ _ _ _ h => h
theorem Only.set {n g i : Nat} {a w : World} (h : Only n (some ⟨g, 0, none⟩) a w) (hn : 0 < n) (v : Value) : Only n (some ⟨g, 0, none⟩) a (w.setCell ⟨g, i, none⟩ v) := fun g' t m f hne ho =>
 (h g' t m f hne ho).far (fun e => hne hn (by rw [show g' = g from e])) v
theorem Sr.only {w w' : World} {lo hi m n : Nat} {A A2 : Option Addr} {t : TypeId} {f : Nat → Value} (h : Sr w lo hi A t m f) (hb : Only n A2 w w') (hne : 0 < m → 0 < n → A ≠ A2) : Sr w' lo hi A t m f := fun hm => by
 obtain ⟨g, e, h1, h2, ho⟩ := h hm
 exact ⟨g, e, h1, h2, hb g t m f (fun hn he => hne hm hn (by rw [e, he])) ho⟩
def kOf (gs : List SgR) (k j : Nat) : Nat := k + j * 3 + ssum gs j * 3
def mkSg (gs : List SgR) (k i : Nat) : Value := if i % 4 = 3 then sgAt gs i else ii ((kOf gs k (i / 4) + i % 4 : Nat) : Int)
def k1V (V : Vl) : Nat := 1 + V.xs.length + V.ms.length * 2
structure MkV (w : World) (lo mid hi : Nat) (V : Vl) : Prop where
 tab : Sr w lo mid V.A 3 V.xs.length (mkAt 1)
 mks : Sr w lo mid V.A2 136 (V.ms.length * 2) (mrAt (markM (1 + V.xs.length) V.ms.length))
 row : Sr w mid hi V.A3 122 (V.gs.length * 4) (mkSg V.gs (k1V V))
 chs : ∀ i, i < V.gs.length → Sr w mid hi (V.gs.getD i sgZ).A 192 ((V.gs.getD i sgZ).cs.length * 3) (markAt (kOf V.gs (k1V V) i + 3))
 img : Sr w mid hi V.A4 3 V.im.length (mkAt (kOf V.gs (k1V V) V.gs.length))
theorem MkV.nx {w w' : World} {lo mid hi : Nat} {V : Vl} (h : MkV w lo mid hi V) (hb : Nx w w') : MkV w' lo mid hi V := ⟨h.tab.nx hb, h.mks.nx hb, h.row.nx hb, fun k hk => (h.chs k hk).nx hb, h.img.nx hb⟩
theorem Rg.up {lo lo' hi hi' : Nat} {w w' : World} (h : Rg lo hi w w') (h1 : lo' ≤ lo) (h2 : hi ≤ hi') : Rg lo' hi' w w' := ⟨h.os, h.tape, h.output, h.size, fun k hk hr => h.block k hk (by rcases hr with hr | hr <;> omega)⟩
end Go.Proofs.YtieoiailjjnnoaaGreatDoor
namespace Go.Proofs.YtieoiailjjnnoaaGreatDoor
set_option linter.unusedVariables false
set_option maxRecDepth 100000
set_option maxHeartbeats 16000000
open Go.Joins Go.ChangeShapes Go.WideShapes Go.RowKit Go.Deep
section
variable {H : Type} {enc : TypeId × Value → H} {w : World} {base : Nat} {spare : Nat → Bool} {held : Bool}
end
end Go.Proofs.YtieoiailjjnnoaaGreatDoor
namespace Go.Proofs.YtieoiailjjnnoaaGreatDoor
set_option linter.unusedVariables false
set_option maxRecDepth 100000
set_option maxHeartbeats 16000000
open Go.RowKit
theorem MkV.rg {w w' : World} {lo mid hi a b : Nat} {V : Vl} (h : MkV w lo mid hi V) (hb : Rg a b w w') (hd : hi ≤ a ∨ b ≤ lo) (h1 : lo ≤ mid) (h2 : mid ≤ hi) : MkV w' lo mid hi V :=
 ⟨h.tab.rg hb (by omega), h.mks.rg hb (by omega), h.row.rg hb (by omega), fun k hk => (h.chs k hk).rg hb (by omega), h.img.rg hb (by omega)⟩
theorem VlP.rg {w w' : World} {lo mid hi a b : Nat} {V : Vl} (h : VlP w lo mid hi V) (hb : Rg a b w w') (hd : hi ≤ a ∨ b ≤ lo) : VlP w' lo mid hi V :=
 have h1 := h.le
 have h2 := h.le2
 ⟨h.tab.rg hb (by omega), h.mks.rg hb (by omega), h.row.rg hb (by omega), fun k hk => (h.chs k hk).rg hb (by omega), h.img.rg hb (by omega), h.dj, h.cap, h.cap3, h.le, h.le2⟩
def wwP (ss : List BA) (p : Int) (n : Nat) (v t : Int) : (List BA × List (Int × BA)) × Int :=
 if apC (ldV ss []).1 (ldV ss []).2 p = 0 then (apD ss (ldV ss []).1 p n v t, 0) else (([], []), apC (ldV ss []).1 (ldV ss []).2 p)
theorem wwP_no {ss : List BA} {p v t : Int} {n : Nat} {V : Vl} {cd k : Int} (h : ldV ss [] = (V, cd)) (hc : apC V cd p = k) (h0 : k ≠ 0) : wwP ss p n v t = (([], []), k) := by
 unfold wwP; rw [h]; simp only; rw [hc, if_neg h0]
theorem wwP_yes {ss : List BA} {p v t : Int} {n : Nat} {V : Vl} {cd : Int} (h : ldV ss [] = (V, cd)) (hc : apC V cd p = 0) : wwP ss p n v t = (apD ss V p n v t, 0) := by
 unfold wwP; rw [h]; simp only; rw [if_pos hc]
theorem RetDiskCode.nil {w w' : World} {R : (List BA × List (Int × BA)) × Int} {k : Int} (h : R = (([], []), k)) (hx : Nx w w') : RetDiskCode w R.1.1 R.1.2 R.2 (.returned (.tuple #[.agg #[nsl, nsl], ii k])) w' := by
 rw [h]
 exact ⟨none, 0, 0, none, 0, 0, rfl, ⟨rfl, fun h => absurd h (by decide)⟩, ⟨rfl, fun h => absurd h (by decide)⟩, hx⟩
def WsR (w' : World) (lo : Nat) (g s : Int) (ss : List BA) (R2 : List (Int × BA)) (x9 : Int) (s9 : BA) (Da : Option Addr) (dn : Nat) (Db : Option Addr) (en : Nat) (E : Value) : Prop :=
 (g = 999999 ∧ E = slE s 7) ∨ (g ≠ 999999 ∧ E = .nilIface ∧ SlS w' lo Da dn (settleTo kpAll ss ([] ++ [(x9, s9)]) 1) ∧ SlW w' lo Db en R2)
section
variable {w' w2 : World} {lo lo' dn en gz : Nat} {g s x9 : Int} {ss : List BA} {R2 : List (Int × BA)} {s9 : BA} {Da Db : Option Addr} {E a b : Value}
theorem WsR.nx (h : WsR w' lo g s ss R2 x9 s9 Da dn Db en E) (hk : Nx w' w2) : WsR w2 lo g s ss R2 x9 s9 Da dn Db en E := h.imp id fun ⟨h1, h2, h3, h4⟩ => ⟨h1, h2, h3.nx hk, h4.nx hk⟩
theorem WsR.low (h : WsR w' lo g s ss R2 x9 s9 Da dn Db en E) (hl : lo' ≤ lo) : WsR w' lo' g s ss R2 x9 s9 Da dn Db en E := h.imp id fun ⟨h1, h2, h3, h4⟩ => ⟨h1, h2, h3.low hl, h4.low hl⟩
theorem WsR.two (h : WsR w' lo g s ss R2 x9 s9 Da dn Db en E) (hb : Box w' gz 35 #[a, b]) (v0 v1 : Value) : WsR ((w'.setCell ⟨gz, 0, none⟩ v0).setCell ⟨gz, 1, none⟩ v1) lo g s ss R2 x9 s9 Da dn Db en E := h.imp id fun ⟨h1, h2, h3, h4⟩ => ⟨h1, h2, h3.twoW hb v0 v1, h4.twoW hb v0 v1⟩
end
theorem RetWS.one {w w' : World} {ss : List BA} {x9 : Int} {s9 : BA} {g b p t : Int} {xs X : List Int} {ms : List Mrk} {e : Ending} {b' p' t' : Int} {ms' : List Mrk} {s : Int} {o : Option (U6 × Int)} (hr : RetWS w ss ([] ++ [(x9, s9)]) b p t X ms o e w') (h : o = some ((g, b', p', t', xs, ms'), s)) :
 Nx w w' ∧ ∃ Da dn dc Db en ec E, e = .returned (.tuple #[.agg #[.slice Da dn dc, .slice Db en ec], E]) ∧ WsR w' w.heap.size g s ss [(1 - s, supT (g + 1) b p t X ms)] x9 s9 Da dn Db en E := by
 obtain ⟨hn, _, h7, h0⟩ := hr
 refine ⟨hn, ?_⟩
 by_cases hg : g = 999999
 · exact ⟨none, 0, 0, none, 0, 0, _, h7 _ _ h hg, .inl ⟨hg, rfl⟩⟩
 · obtain ⟨A, n, c, A2, n2, c2, he, hS, hW⟩ := h0 _ _ h hg
   exact ⟨A, n, c, A2, n2, c2, _, he, .inr ⟨hg, rfl, hS, hW⟩⟩
theorem mergeWW {G : Nat → Option Addr → Nat → Nat → Option Addr → Nat → Nat → Value → World → Option Addr → Nat → Option Addr → Nat → Option Addr → Nat → Option Addr → Nat → Prop} {F : Nat → Option Addr → Nat → Nat → Option Addr → Nat → Nat → Value → World → Prop} {R : Prop} (main : (∀ g A n c B m d E W Aq cq A8 c8 A9 c9 As cs, F g A n c B m d E W → G g A n c B m d E W Aq cq A8 c8 A9 c9 As cs) → R) (key : ∀ g A n c B m d E W Aq cq A8 c8 A9 c9 As cs, F g A n c B m d E W → G g A n c B m d E W Aq cq A8 c8 A9 c9 As cs) : R := main key
theorem withWrite_c (A A2 : Option Addr) (n c n2 c2 B : Nat) (ss : List BA) (p v t : Int) (n0 : Nat) (w : World) (a0 a1 : Addr) (h : Strs w B A n ss) (h2 : Wrs w B A2 n2 []) (hB : B ≤ w.heap.size) (hD : diskB ss [] = true) (hf : frameB p (n0 : Int) v t = true)
 (hE : Er w a0 a1) (hM : Mx w) (hEt : Et w) (hT : Tab w) :
 Calls Tryz.prog 75 #[.agg #[.slice A n c, .slice A2 n2 c2], .agg #[ii p, ii (n0 : Int), ii v, ii t]] w (RetDiskCode w (wwP ss p n0 v t).1.1 (wwP ss p n0 v t).1.2 (wwP ss p n0 v t).2) := by
 have HD := qh hD
 have HF := qh hf
 obtain rfl : n = 64 := by rw [← h.1]; exact (diskB_len64 hD).1
 obtain rfl : n2 = 0 := h2.1.symm
 obtain ⟨⟨V, cd⟩, HL⟩ : ∃ q, Hid (ldV ss [] = q) := ⟨_, rfl⟩
 have HcdL := qh (ldV_code ss [])
 rw [HL.out] at HcdL
 have HV := fun w1 h1 h2 h3 h4 h5 h6 => diskVault_c A A2 64 c 0 c2 B ss [] w1 a0 a1 h1 h2 h3 (by omega) (by omega) hD h4 h5 h6
 rw [HL.out] at HV
 have HV := qh HV
 obtain ⟨R, HR⟩ : ∃ q, Hid (wwP ss p n0 v t = q) := ⟨_, rfl⟩
 have HN := qh (fun k (hc : apC V cd p = k) (h0 : k ≠ 0) => HR.out.symm.trans (wwP_no HL.out hc h0))
 rw [HR.out]
 clear hD hf
 have e0 : Box (((w.alloc (.cells #[.slice A 64 c, .slice A2 0 c2] 35)).alloc (.cells #[ii p, ii (n0 : Int), ii v, ii t] 55)).alloc (.cells #[nsl, nsl] 35)) w.heap.size 35 #[.slice A 64 c, .slice A2 0 c2] := ((Box.new w _ _).alloc _).alloc _
 have f0 : Box (((w.alloc (.cells #[.slice A 64 c, .slice A2 0 c2] 35)).alloc (.cells #[ii p, ii (n0 : Int), ii v, ii t] 55)).alloc (.cells #[nsl, nsl] 35)) (w.heap.size + 1) 55 #[ii p, ii (n0 : Int), ii v, ii t] := by have := (Box.new (w.alloc (.cells #[.slice A 64 c, .slice A2 0 c2] 35)) 55 #[ii p, ii (n0 : Int), ii v, ii t]).alloc (.cells #[nsl, nsl] 35); rwa [World.size_alloc] at this
 have r0 : Box (((w.alloc (.cells #[.slice A 64 c, .slice A2 0 c2] 35)).alloc (.cells #[ii p, ii (n0 : Int), ii v, ii t] 55)).alloc (.cells #[nsl, nsl] 35)) (w.heap.size + 1 + 1) 35 #[nsl, nsl] := by have := Box.new ((w.alloc (.cells #[.slice A 64 c, .slice A2 0 c2] 35)).alloc (.cells #[ii p, ii (n0 : Int), ii v, ii t] 55)) 35 #[nsl, nsl]; rwa [World.size_alloc, World.size_alloc] at this
 have hx0 := (((Nx.refl w).alloc (.cells #[.slice A 64 c, .slice A2 0 c2] 35)).alloc (.cells #[ii p, ii (n0 : Int), ii v, ii t] 55)).alloc (.cells #[nsl, nsl] 35)
 have y0 := e0.c0
 have y1 := e0.c1
 go_enter Tryz.func75, Tryz.ntmps75
 go_wp2_with fail
 generalize ((w.alloc (.cells #[.slice A 64 c, .slice A2 0 c2] 35)).alloc (.cells #[ii p, ii (n0 : Int), ii v, ii t] 55)).alloc (.cells #[nsl, nsl] 35) = W at *
 obtain ⟨gF, HgF⟩ : ∃ g, Hid (w.heap.size + 1 = g) := ⟨_, rfl⟩
 obtain ⟨gR, HgR⟩ : ∃ g, Hid (w.heap.size + 1 + 1 = g) := ⟨_, rfl⟩
 have hgR : w.heap.size ≤ gR := by have := HgR.out; omega
 rw [HgR.out] at r0 ⊢
 rw [HgF.out] at f0 ⊢
 clear y0 y1
 refine (HV.out W (h.below hx0 hB) (h2.below hx0 hB) (ntr hB hx0.size) (hE.nx hx0) (hM.nx hx0) (hEt.nx hx0)).mono ?_
 rintro e w1 ⟨V1, mid, rfl, hs, hp, hk⟩
 have hx1 := hx0.trans hk
 have e1 := e0.nx hk
 have f1 := f0.nx hk
 have r1 := r0.nx hk
 have hp1 := hp.low hx0.size
 clear e0 f0 r0 hk hp
 simp only [Vl.v, Vl.cells]
 have bv := Box.new w1 49 #[ii V1.g, ii V1.b, ii V1.p, ii V1.t, .slice V1.A V1.xs.length V1.c, .slice V1.A2 V1.ms.length V1.c2, .slice V1.A3 V1.gs.length V1.c3, .slice V1.A4 V1.im.length V1.c4]
 have hkv := (Nx.refl w1).alloc (.cells #[ii V1.g, ii V1.b, ii V1.p, ii V1.t, .slice V1.A V1.xs.length V1.c, .slice V1.A2 V1.ms.length V1.c2, .slice V1.A3 V1.gs.length V1.c3, .slice V1.A4 V1.im.length V1.c4] 49)
 have e2 := e1.nx hkv
 have f2 := f1.nx hkv
 have r2 := r1.nx hkv
 have hx2 := hx1.trans hkv
 have hp2 := hp1.nx hkv
 have zv : w1.heap.size < (w1.alloc (.cells #[ii V1.g, ii V1.b, ii V1.p, ii V1.t, .slice V1.A V1.xs.length V1.c, .slice V1.A2 V1.ms.length V1.c2, .slice V1.A3 V1.gs.length V1.c3, .slice V1.A4 V1.im.length V1.c4] 49)).heap.size := by simp
 clear e1 f1 r1 hp1 hkv
 have hsz1 := hx1.size
 clear hx1
 rcases Decidable.em (cd = 0) with h0 | h0
 rotate_left
 · have m0 := r2.c0
   have m1 := r2.c1
   have mf0 := r2.frozen 0
   have mf1 := r2.frozen 1
   have HR2 := qh (HN.out cd (apC_code h0) h0)
   go_wp2_with fail
   generalize (w1.alloc (.cells #[ii V1.g, ii V1.b, ii V1.p, ii V1.t, .slice V1.A V1.xs.length V1.c, .slice V1.A2 V1.ms.length V1.c2, .slice V1.A3 V1.gs.length V1.c3, .slice V1.A4 V1.im.length V1.c4] 49)) = w2 at *
   have rq := (r2.set0 (nsl)).set1 (nsl)
   have hnf := (hx2.setCell (p := ⟨gR, 0, none⟩) hgR (nsl)).setCell (p := ⟨gR, 1, none⟩) hgR (nsl)
   generalize (w2.setCell ⟨gR, 0, none⟩ (nsl)).setCell ⟨gR, 1, none⟩ (nsl) = Wf at *
   clear m0 m1 mf0 mf1
   have q0 := rq.c0
   have q1 := rq.c1
   go_wp2
   exact bodyPost_ret (v := .tuple #[.agg #[nsl, nsl], ii cd]) (by simp [results, Tryz.results75, go_sem, q0, q1]) rfl (RetDiskCode.nil HR2.out hnf)
 obtain rfl : cd = 0 := h0
 obtain ⟨y0, y1, y2, y3, y4, y5, y6, y7⟩ := bv.e8
 go_wp2_with fail
 generalize (w1.alloc (.cells #[ii V1.g, ii V1.b, ii V1.p, ii V1.t, .slice V1.A V1.xs.length V1.c, .slice V1.A2 V1.ms.length V1.c2, .slice V1.A3 V1.gs.length V1.c3, .slice V1.A4 V1.im.length V1.c4] 49)) = w2 at *
 clear y0 y1 y2 y3 y4 y5 y6 y7
 obtain ⟨gV, HgV⟩ : ∃ g, Hid (w1.heap.size = g) := ⟨_, rfl⟩
 have hgV : w.heap.size ≤ gV := by have := HgV.out; omega
 rw [HgV.out] at bv ⊢
 have HLY := qh (ldV_ldY HL.out)
 have HsV : Hid (VlS V V1) := qh hs
 have HY := qh (HsV.out.y HLY.out.ok)
 clear hs
 have hv2 := qh hp2.own.vlt
 have H8 := qh HY.out.l8
 refine (view_c V1 w2.heap.size w2 hv2.out.img nle H8.out).mono ?_
 rintro e w3 ⟨rfl, hk⟩
 have hx3 := hx2.trans hk
 have e3 := e2.nx hk
 have f3 := f2.nx hk
 have r3 := r2.nx hk
 have hp3 := hp2.nx hk
 have bv3 := bv.nx hk
 simp only [Vl.w, Vl.wcells]
 have rz := Box.new w3 107 #[ii 0, ii 0, ii 0, ii 0, nsl, nsl, nsl, ii 0, ii 0, ii 0, ii 0, ii 0, ii 0, ii 0, ii 0]
 have bw := rz.row #[ii V1.g, ii V1.b, ii V1.p, ii V1.t, .slice V1.A V1.xs.length V1.c, .slice V1.A2 V1.ms.length V1.c2, .slice V1.A3 V1.gs.length V1.c3, inAt V1.im 0, inAt V1.im 1, inAt V1.im 2, inAt V1.im 3, inAt V1.im 4, inAt V1.im 5, inAt V1.im 6, inAt V1.im 7]
 have hkv := ((Nx.refl w3).alloc (.cells #[ii 0, ii 0, ii 0, ii 0, nsl, nsl, nsl, ii 0, ii 0, ii 0, ii 0, ii 0, ii 0, ii 0, ii 0] 107)).setRow (g := w3.heap.size) nle #[ii V1.g, ii V1.b, ii V1.p, ii V1.t, .slice V1.A V1.xs.length V1.c, .slice V1.A2 V1.ms.length V1.c2, .slice V1.A3 V1.gs.length V1.c3, inAt V1.im 0, inAt V1.im 1, inAt V1.im 2, inAt V1.im 3, inAt V1.im 4, inAt V1.im 5, inAt V1.im 6, inAt V1.im 7]
 have zw : w3.heap.size < ((w3.alloc (.cells #[ii 0, ii 0, ii 0, ii 0, nsl, nsl, nsl, ii 0, ii 0, ii 0, ii 0, ii 0, ii 0, ii 0, ii 0] 107)).setRow w3.heap.size #[ii V1.g, ii V1.b, ii V1.p, ii V1.t, .slice V1.A V1.xs.length V1.c, .slice V1.A2 V1.ms.length V1.c2, .slice V1.A3 V1.gs.length V1.c3, inAt V1.im 0, inAt V1.im 1, inAt V1.im 2, inAt V1.im 3, inAt V1.im 4, inAt V1.im 5, inAt V1.im 6, inAt V1.im 7]).heap.size := by rw [size_setRow]; simp
 have e4 := e3.nx hkv
 have f4 := f3.nx hkv
 have r4 := r3.nx hkv
 have hx4 := hx3.trans hkv
 have hp4 := hp3.nx hkv
 have bv4 := bv3.nx hkv
 clear e2 f2 r2 hx2 hp2 e3 f3 r3 hp3 hkv hk bv bv3
 go_wp2_with (refine wpList_store_row rfl _ _ _ rfl w3.heap.size #[ii V1.g, ii V1.b, ii V1.p, ii V1.t, .slice V1.A V1.xs.length V1.c, .slice V1.A2 V1.ms.length V1.c2, .slice V1.A3 V1.gs.length V1.c3, inAt V1.im 0, inAt V1.im 1, inAt V1.im 2, inAt V1.im 3, inAt V1.im 4, inAt V1.im 5, inAt V1.im 6, inAt V1.im 7] rfl rfl 107 #[ii 0, ii 0, ii 0, ii 0, nsl, nsl, nsl, ii 0, ii 0, ii 0, ii 0, ii 0, ii 0, ii 0, ii 0] rz (by kernel_rfl) rfl (by simp [Value.oneCell', inAt]) ?_)
 clear rz
 have hs3 := hx3.size
 clear hx3
 generalize ((w3.alloc (.cells #[ii 0, ii 0, ii 0, ii 0, nsl, nsl, nsl, ii 0, ii 0, ii 0, ii 0, ii 0, ii 0, ii 0, ii 0] 107)).setRow w3.heap.size #[ii V1.g, ii V1.b, ii V1.p, ii V1.t, .slice V1.A V1.xs.length V1.c, .slice V1.A2 V1.ms.length V1.c2, .slice V1.A3 V1.gs.length V1.c3, inAt V1.im 0, inAt V1.im 1, inAt V1.im 2, inAt V1.im 3, inAt V1.im 4, inAt V1.im 5, inAt V1.im 6, inAt V1.im 7]) = w4 at *
 obtain ⟨gW, HgW⟩ : ∃ g, Hid (w3.heap.size = g) := ⟨_, rfl⟩
 have hgW : w.heap.size ≤ gW := by have := HgW.out; omega
 rw [HgW.out] at bw zw ⊢
 have hn4 : V1.gs.length ≤ 1048576 := by have := HY.out.n4; omega
 have HTp : Hid (V.tip = V1.tip) := qh HsV.out.tip.symm
 have HTc := qh (fun (w' : World) (hx : Nx w4 w') => tip_c V1 w4.heap.size w' (hp4.own.vlt.sgs.below hx nle) hx.size hn4)
 have HTi := HY.out.tipIn
 obtain ⟨T, HT⟩ : ∃ q, Hid (tipV V1.b V1.gs = q) := ⟨_, rfl⟩
 rw [HT.out] at HTc HTi
 have hw1 : IntKind.i64.wrap (T + 1) = T + 1 := IntWalk.i64_in _ (by omega)
 go_wp2_with fail
 refine wp_planA (.t 0 (.t 1 (.t 2 (.c 3 (.t 4 (.t 5 .e)))))) (fun w' => (w'.cell? ⟨gW, 0, none⟩ = some (ii V1.g) ∧ w'.cell? ⟨gW, 1, none⟩ = some (ii V1.b) ∧ w'.cell? ⟨gW, 2, none⟩ = some (ii V1.p) ∧ w'.cell? ⟨gW, 3, none⟩ = some (ii V1.t) ∧ w'.cell? ⟨gW, 4, none⟩ = some (.slice V1.A V1.xs.length V1.c) ∧ w'.cell? ⟨gW, 5, none⟩ = some (.slice V1.A2 V1.ms.length V1.c2) ∧ w'.cell? ⟨gW, 6, none⟩ = some (.slice V1.A3 V1.gs.length V1.c3) ∧ w'.cell? ⟨gW, 7, none⟩ = some (inAt V1.im 0) ∧ w'.cell? ⟨gW, 8, none⟩ = some (inAt V1.im 1) ∧ w'.cell? ⟨gW, 9, none⟩ = some (inAt V1.im 2) ∧ w'.cell? ⟨gW, 10, none⟩ = some (inAt V1.im 3) ∧ w'.cell? ⟨gW, 11, none⟩ = some (inAt V1.im 4) ∧ w'.cell? ⟨gW, 12, none⟩ = some (inAt V1.im 5) ∧ w'.cell? ⟨gW, 13, none⟩ = some (inAt V1.im 6) ∧ w'.cell? ⟨gW, 14, none⟩ = some (inAt V1.im 7)) ∧ w'.cell? ⟨gF, 0, none⟩ = some (ii p)) (by exact ⟨bw.e15, f4.cell 0⟩) ?_
 simp only [psOf, List.getD_cons_zero, List.getD_cons_succ]
 repeat ((first | refine HP.tk ?_ | refine HP.sk ?_); try simp only [Act.put, qqA, qqB, qqC])
 refine hPc fun K hK => ?_
 go_simp
 refine (HTc.out w4.drew (Nx.refl _).drew).mono ?_; rintro e w5 ⟨rfl, hk⟩; have hx5 := (Nx.refl w4).drew.trans hk; have bw5 := bw.nx hx5; have f5 := f4.nx hx5
 go_wp2_with fail
 refine hK.out _ _ (by exact ⟨bw5.e15, f5.cell 0⟩) ?_
 clear hK K
 try simp only [Act.put, qqA, qqB, qqC]
 repeat ((first | refine HP.tk ?_ | refine HP.sk ?_); try simp only [Act.put, qqA, qqB, qqC])
 refine HP.done ?_
 have r5 := r4.nx hx5
 have hxw5 := hx4.trans hx5
 by_cases h1 : p ≤ T
 · have hd1 : decide (p ≤ T) = true := decide_eq_true h1
   have m0 := r5.c0
   have m1 := r5.c1
   have mf0 := r5.frozen 0
   have mf1 := r5.frozen 1
   have HR2 := qh (HN.out 9 (apC_there (by rw [(show V.tip = T from HTp.out.trans HT.out)]; exact h1)) (by decide))
   go_wp2_with fail
   have rq := (r5.set0 (nsl)).set1 (nsl)
   have hnf := (hxw5.setCell (p := ⟨gR, 0, none⟩) hgR (nsl)).setCell (p := ⟨gR, 1, none⟩) hgR (nsl)
   generalize (w5.setCell ⟨gR, 0, none⟩ (nsl)).setCell ⟨gR, 1, none⟩ (nsl) = Wf at *
   clear m0 m1 mf0 mf1
   have q0 := rq.c0
   have q1 := rq.c1
   go_wp2
   exact bodyPost_ret (v := .tuple #[.agg #[nsl, nsl], ii 9]) (by simp [results, Tryz.results75, go_sem, q0, q1]) rfl (RetDiskCode.nil HR2.out hnf)
 have hd1 : decide (p ≤ T) = false := decide_eq_false h1
 go_wp2_with fail
 refine wp_planA (.t 0 (.t 1 (.t 2 (.c 3 (.t 4 (.t 5 (.t 6 .e))))))) (fun w' => (w'.cell? ⟨gW, 0, none⟩ = some (ii V1.g) ∧ w'.cell? ⟨gW, 1, none⟩ = some (ii V1.b) ∧ w'.cell? ⟨gW, 2, none⟩ = some (ii V1.p) ∧ w'.cell? ⟨gW, 3, none⟩ = some (ii V1.t) ∧ w'.cell? ⟨gW, 4, none⟩ = some (.slice V1.A V1.xs.length V1.c) ∧ w'.cell? ⟨gW, 5, none⟩ = some (.slice V1.A2 V1.ms.length V1.c2) ∧ w'.cell? ⟨gW, 6, none⟩ = some (.slice V1.A3 V1.gs.length V1.c3) ∧ w'.cell? ⟨gW, 7, none⟩ = some (inAt V1.im 0) ∧ w'.cell? ⟨gW, 8, none⟩ = some (inAt V1.im 1) ∧ w'.cell? ⟨gW, 9, none⟩ = some (inAt V1.im 2) ∧ w'.cell? ⟨gW, 10, none⟩ = some (inAt V1.im 3) ∧ w'.cell? ⟨gW, 11, none⟩ = some (inAt V1.im 4) ∧ w'.cell? ⟨gW, 12, none⟩ = some (inAt V1.im 5) ∧ w'.cell? ⟨gW, 13, none⟩ = some (inAt V1.im 6) ∧ w'.cell? ⟨gW, 14, none⟩ = some (inAt V1.im 7)) ∧ w'.cell? ⟨gF, 0, none⟩ = some (ii p)) (by exact ⟨bw5.e15, f5.cell 0⟩) ?_
 simp only [psOf, List.getD_cons_zero, List.getD_cons_succ]
 repeat ((first | refine HP.tk ?_ | refine HP.sk ?_); try simp only [Act.put, qqA, qqB, qqC])
 refine hPc fun K hK => ?_
 go_simp
 refine (HTc.out w5.drew (hx5.trans (Nx.refl _).drew)).mono ?_; rintro e w6 ⟨rfl, hk⟩; have hx6 := (Nx.refl w5).drew.trans hk; have bw6 := bw5.nx hx6; have f6 := f5.nx hx6
 go_wp2_with fail
 refine hK.out _ _ (by exact ⟨bw6.e15, f6.cell 0⟩) ?_
 clear hK K
 try simp only [Act.put, qqA, qqB, qqC]
 repeat ((first | refine HP.tk ?_ | refine HP.sk ?_); try simp only [Act.put, qqA, qqB, qqC])
 refine HP.done ?_
 have r6 := r5.nx hx6
 have hxw6 := hxw5.trans hx6
 by_cases h7 : T + 1 < p
 · have hd7 : decide (T + 1 < p) = true := decide_eq_true h7
   have m0 := r6.c0
   have m1 := r6.c1
   have mf0 := r6.frozen 0
   have mf1 := r6.frozen 1
   have HR2 := qh (HN.out 17 (apC_gap (by rw [(show V.tip = T from HTp.out.trans HT.out)]; exact h7)) (by decide))
   go_wp2_with fail
   have rq := (r6.set0 (nsl)).set1 (nsl)
   have hnf := (hxw6.setCell (p := ⟨gR, 0, none⟩) hgR (nsl)).setCell (p := ⟨gR, 1, none⟩) hgR (nsl)
   generalize (w6.setCell ⟨gR, 0, none⟩ (nsl)).setCell ⟨gR, 1, none⟩ (nsl) = Wf at *
   clear m0 m1 mf0 mf1
   have q0 := rq.c0
   have q1 := rq.c1
   go_wp2
   exact bodyPost_ret (v := .tuple #[.agg #[nsl, nsl], ii 17]) (by simp [results, Tryz.results75, go_sem, q0, q1]) rfl (RetDiskCode.nil HR2.out hnf)
 have hd7 : decide (T + 1 < p) = false := decide_eq_false h7
 have y6 := bw6.cell 6
 by_cases h20 : V1.gs.length = 20
 · have Hp := qh (show p = V.tip + 1 by rw [(show V.tip = T from HTp.out.trans HT.out)]; omega)
   have Hl := qh (show V.gs.length = 20 from HsV.out.len.symm.trans h20)
   have m0 := r6.c0
   have m1 := r6.c1
   have mf0 := r6.frozen 0
   have mf1 := r6.frozen 1
   have HR2 := qh (HN.out 7 (apC_full Hp.out (.inl Hl.out)) (by decide))
   go_wp2_with fail
   have rq := (r6.set0 (nsl)).set1 (nsl)
   have hnf := (hxw6.setCell (p := ⟨gR, 0, none⟩) hgR (nsl)).setCell (p := ⟨gR, 1, none⟩) hgR (nsl)
   generalize (w6.setCell ⟨gR, 0, none⟩ (nsl)).setCell ⟨gR, 1, none⟩ (nsl) = Wf at *
   clear m0 m1 mf0 mf1
   have q0 := rq.c0
   have q1 := rq.c1
   go_wp2
   exact bodyPost_ret (v := .tuple #[.agg #[nsl, nsl], ii 7]) (by simp [results, Tryz.results75, go_sem, q0, q1]) rfl (RetDiskCode.nil HR2.out hnf)
 have hd20 : decide ((V1.gs.length : Int) = 20) = false := decide_eq_false (by omega)
 have h20' := h20
 have y0 := bw6.cell 0
 have y1 := bw6.cell 1
 have y2 := bw6.cell 2
 have y3 := bw6.cell 3
 have y4 := bw6.cell 4
 have y5 := bw6.cell 5
 go_wp2_with fail
 clear y0 y1 y2 y3 y4 y5 y6
 have hi6 := (hp4.nx (hx5.trans hx6)).own.vlt.tab
 refine (superFree_c V1.g V1.b V1.p V1.t V1.A V1.A2 V1.c V1.c2 w6.heap.size V1.xs V1.ms w6 hi6 nle (by have := HY.out.len; omega)).mono ?_
 rintro e w7 ⟨A7, c7, rfl, hc7, hS7, hx7⟩
 have HfL := qh (freeTo_some (xs := V1.xs) (by have := (tbB_yes (superB_yes HY.out.super).2.2.2.2.1).1; omega))
 obtain ⟨b7, o7, rfl, hb7, q7⟩ := Ins.at_ (k := 0) hS7.row HfL.out
 obtain ⟨L7, HL7⟩ : ∃ q, Hid ((freeTo V1.xs 54).length = q) := ⟨_, rfl⟩
 have hL7 : 0 < L7 := HL7.out ▸ HfL.out
 rw [HL7.out]
 have hL8 : (0 : Int) < (L7 : Int) := by omega
 change w7.cell? ⟨b7, o7, none⟩ = some (ii (freeS V1.xs)) at q7
 have kx : Nx w4 w7 := hx5.trans (hx6.trans hx7)
 have zE : Box w7 w.heap.size 35 #[.slice A 64 c, .slice A2 0 c2] := e4.nx kx
 have zF := f6.nx hx7
 have zV := bw6.nx hx7
 have zR := r6.nx hx7
 have zP := hp4.nx kx
 have zX : Nx w w7 := hxw6.trans hx7
 clear e4 f6 bw6 r6 hp4 hxw6 kx hx5 hx6 hx7 f5 bw5 r5 hxw5
 have Hp1 := qh (show p = V1.tip + 1 from (show p = T + 1 by omega).trans (congrArg (· + 1) (show T = V1.tip from HT.out.symm)))
 have h20 : Hid (V.gs.length ≠ 20) := qh (by rw [← HsV.out.len]; exact h20')
 have HP0 := qh (show p = V.tip + 1 from Hp1.out.trans (congrArg (· + 1) HsV.out.tip))
 have HS1 : Hid (superB V1.g V1.b V1.p V1.t (V1.xs ++ [freeS V1.xs]) V1.ms = true) := qh (by rw [HsV.out.g, HsV.out.b, HsV.out.p, HsV.out.t, HsV.out.xs, HsV.out.ms]; exact HLY.out.table h20.out)
 have HXL : Hid (V1.xs.length ≤ 1048575) := qh (by rw [HsV.out.xs]; have := HLY.out.room h20.out; omega)
 have HFr := qh (frameB_yes HF.out)
 obtain ⟨m9, Hm9⟩ : ∃ q, Hid (lastM V1.gs t = q) := ⟨_, rfl⟩
 obtain ⟨o9, Ho9⟩ : ∃ q, Hid (V1.top.getD n0 0 = q) := ⟨_, rfl⟩
 have HGR : Hid (segB (p - 1) p m9 [((n0 : Int), v, o9)] = true) := qh (by rw [← Hm9.out, ← Ho9.out]; exact (newG_nxt HY.out HF.out Hp1.out).seg)
 have HGT : Hid (sealS (numsS (segN (p - 1) p m9 [((n0 : Int), v, o9)])) = segT (newG V p n0 v t)) := qh (by rw [← Hm9.out, ← Ho9.out, ← HsV.out.newG]; rfl)
 obtain ⟨x9, Hx9⟩ : ∃ q, Hid (freeS V1.xs = q) := ⟨_, rfl⟩
 obtain ⟨s9, Hs9⟩ : ∃ q, Hid (segT (newG V p n0 v t) = q) := ⟨_, rfl⟩
 have HXe : Hid (freeS V.xs = x9) := qh (by rw [← HsV.out.xs]; exact Hx9.out)
 rw [Hs9.out] at HGT
 obtain ⟨X9, HX9⟩ : ∃ q, Hid (V1.xs ++ [x9] = q) := ⟨_, rfl⟩
 rw [Hx9.out, HX9.out] at HS1
 rw [Hx9.out] at q7
 have HDp : Hid (diskB ss ([] ++ [(x9, s9)]) = true) := qh (by rw [← HXe.out, ← Hs9.out]; exact HLY.out.put HD.out h20.out)
 obtain ⟨z9, Hz9⟩ : ∃ q, Hid (sltV ss [] = q) := ⟨_, rfl⟩
 have HNU : Hid (newU (rdU (readP ss ([] ++ [(x9, s9)]) 0)) (rdU (readP ss ([] ++ [(x9, s9)]) 1)) = some ((V1.g, V1.b, V1.p, V1.t, V1.xs, V1.ms), z9)) := qh (by rw [← HXe.out, ← Hz9.out, HLY.out.newest h20.out, HsV.out.g, HsV.out.b, HsV.out.p, HsV.out.t, HsV.out.xs, HsV.out.ms])
 go_wp2_with fail
 clear q7
 clear HTc HTi HTp hw1 hd1 hd7 hd20 h1 h7 hS7 HfL HL7 hi6 hsz1 hs3 hn4 HT
 refine mergeWW (F := fun gz Da dn dc Db en ec E Wq => Box Wq gz 35 #[.slice Da dn dc, .slice Db en ec] ∧ Box Wq gR 35 #[nsl, nsl] ∧ Nx w Wq ∧ WsR Wq w.heap.size V1.g z9 ss [(1 - z9, supT (V1.g + 1) V1.b V1.p V1.t X9 V1.ms)] x9 s9 Da dn Db en E) (G := ?_) (fun key => ?_) ?_
 rotate_left
 · have kd : Nx w7 w7.drew := (Nx.refl w7).drew
   replace zE := zE.nx kd; replace zF := zF.nx kd; replace zV := zV.nx kd; replace zR := zR.nx kd; replace zP := zP.nx kd; replace zX := zX.trans kd
   clear kd
   refine wp_planA (.t 0 (.t 1 (.t 2 (.t 3 (.t 7 (.t 8 (.t 9 (.b 4 (.b 5 (.b 6 (.b 10 (.b 11 (.t 12 (.t 13 (.t 14 (.c 15 (.c 16 (.t 17 .e)))))) 15 (.c 11 (.t 12 (.t 13 (.t 14 (.c 16 (.t 17 .e))))))) 15 (.c 10 (.c 11 (.t 12 (.t 13 (.t 14 (.c 16 (.t 17 .e)))))))) 15 (.c 6 (.c 10 (.c 11 (.t 12 (.t 13 (.t 14 (.c 16 (.t 17 .e))))))))) 15 (.c 5 (.c 6 (.c 10 (.c 11 (.t 12 (.t 13 (.t 14 (.c 16 (.t 17 .e)))))))))) 15 (.c 4 (.c 5 (.c 6 (.c 10 (.c 11 (.t 12 (.t 13 (.t 14 (.c 16 (.t 17 .e)))))))))))))))))) (fun w' => (w'.cell? ⟨w.heap.size, 0, none⟩ = some (.slice A 64 c) ∧ w'.cell? ⟨w.heap.size, 1, none⟩ = some (.slice A2 0 c2)) ∧ (w'.cell? ⟨gW, 0, none⟩ = some (ii V1.g) ∧ w'.cell? ⟨gW, 1, none⟩ = some (ii V1.b) ∧ w'.cell? ⟨gW, 2, none⟩ = some (ii V1.p) ∧ w'.cell? ⟨gW, 3, none⟩ = some (ii V1.t) ∧ w'.cell? ⟨gW, 4, none⟩ = some (.slice V1.A V1.xs.length V1.c) ∧ w'.cell? ⟨gW, 5, none⟩ = some (.slice V1.A2 V1.ms.length V1.c2) ∧ w'.cell? ⟨gW, 6, none⟩ = some (.slice V1.A3 V1.gs.length V1.c3) ∧ w'.cell? ⟨gW, 7, none⟩ = some (inAt V1.im 0) ∧ w'.cell? ⟨gW, 8, none⟩ = some (inAt V1.im 1) ∧ w'.cell? ⟨gW, 9, none⟩ = some (inAt V1.im 2) ∧ w'.cell? ⟨gW, 10, none⟩ = some (inAt V1.im 3) ∧ w'.cell? ⟨gW, 11, none⟩ = some (inAt V1.im 4) ∧ w'.cell? ⟨gW, 12, none⟩ = some (inAt V1.im 5) ∧ w'.cell? ⟨gW, 13, none⟩ = some (inAt V1.im 6) ∧ w'.cell? ⟨gW, 14, none⟩ = some (inAt V1.im 7)) ∧ (w'.cell? ⟨gF, 0, none⟩ = some (ii p) ∧ w'.cell? ⟨gF, 1, none⟩ = some (ii (n0 : Int)) ∧ w'.cell? ⟨gF, 2, none⟩ = some (ii v) ∧ w'.cell? ⟨gF, 3, none⟩ = some (ii t))) (by exact ⟨⟨zE.c0, zE.c1⟩, zV.e15, zF.d4⟩) ?_
   simp only [psOf, List.getD_cons_zero, List.getD_cons_succ]
   generalize w7.drew = wv at *
   repeat' (first
    | (have hDn := hDone; have rc0 := bz.cell 0; have rf0 := bz.frozen 0; have rc1 := bz.cell 1; have rf1 := bz.frozen 1; have rlt := bz.lt; (with_reducible refine HP.call ?_); refine cSt fun K hK => ?_; go_simp; refine hK.out _ _ (by exact ⟨⟨((zE.far (p := ⟨gz, 0, none⟩) hnE (.slice Da dn dc)).far (p := ⟨gz, 1, none⟩) hnE (.slice Db en ec)).c0, ((zE.far (p := ⟨gz, 0, none⟩) hnE (.slice Da dn dc)).far (p := ⟨gz, 1, none⟩) hnE (.slice Db en ec)).c1⟩, ((zV.far (p := ⟨gz, 0, none⟩) hnV (.slice Da dn dc)).far (p := ⟨gz, 1, none⟩) hnV (.slice Db en ec)).e15, ((zF.far (p := ⟨gz, 0, none⟩) hnF (.slice Da dn dc)).far (p := ⟨gz, 1, none⟩) hnF (.slice Db en ec)).d4⟩) ?_; clear hK K; (try simp only [Act.put, qqA, qqB, qqC]); clear rc0 rf0 rc1 rf1; repeat (first | (refine HP.tk ?_; (try simp only [Act.put, qqA, qqB, qqC])) | (refine HP.sk ?_; (try simp only [Act.put, qqA, qqB, qqC]))); refine HP.done ?_; have rq := (bz.set0 (.slice Da dn dc)).set1 (.slice Db en ec); have rR := ((zR.far (p := ⟨gz, 0, none⟩) hnR (.slice Da dn dc)).far (p := ⟨gz, 1, none⟩) hnR (.slice Db en ec)); have rX := (zX.setCell (p := ⟨gz, 0, none⟩) hgz (.slice Da dn dc)).setCell (p := ⟨gz, 1, none⟩) hgz (.slice Db en ec); have rW := hWs.two bz (.slice Da dn dc) (.slice Db en ec); generalize (wv.setCell ⟨gz, 0, none⟩ (.slice Da dn dc)).setCell ⟨gz, 1, none⟩ (.slice Db en ec) = Wf at *; exact key gz Da dn dc Db en ec E Wf Aq cq A8 c8 A9 c9 As cs ⟨rq, rR, rX, rW⟩)
    | (with_reducible refine HP.both ?_ ?_)
    | (with_reducible refine HP.three ?_ ?_ ?_)
    | (with_reducible refine HP.call ?_)
    | (refine HP.tk ?_; (try simp only [Act.put, qqA, qqB, qqC]))
    | (refine HP.sk ?_; (try simp only [Act.put, qqA, qqB, qqC]))
    | (refine cSt fun K hK => ?_; go_simp; first
      | ((with_reducible refine callAt 155 ?_); have HC := viewSegOf_c V1 p v t n0 wv.heap.size wv zP.own.vlt.sgs nle HY.out (by have := HFr.out.2.1; omega) (by have := HFr.out.1; omega) (by have := HFr.out.1; omega); rw [Hm9.out, Ho9.out] at HC; refine HC.mono ?_; clear HC; rintro e wv ⟨Aq, cq, rfl, hSq, hk⟩; (try replace bz := bz.nx hk); replace zE := zE.nx hk; replace zF := zF.nx hk; replace zV := zV.nx hk; replace zR := zR.nx hk; replace zP := zP.nx hk; replace zX := zX.trans hk; (try replace hS8 := hS8.nx hk); (try replace hW8 := hW8.nx hk); (try replace hSs := hSs.nx hk); (try replace hWs := hWs.nx hk); clear hk; go_wp2_with fail; refine hK.out _ _ (by exact ⟨⟨zE.c0, zE.c1⟩, zV.e15, zF.d4⟩) ?_; clear hK K; (try simp only [Act.put, qqA, qqB, qqC]))
      | ((with_reducible refine callAt 156 ?_); refine (segTextM_c (p - 1) p m9 Aq cq wv.heap.size [((n0 : Int), v, o9)] wv hSq.row nle HGR.out).mono ?_; rintro e wv ⟨he, hk⟩; rw [HGT.out] at he; subst he; (try replace bz := bz.nx hk); replace zE := zE.nx hk; replace zF := zF.nx hk; replace zV := zV.nx hk; replace zR := zR.nx hk; replace zP := zP.nx hk; replace zX := zX.trans hk; (try replace hSq := hSq.nx hk); (try replace hS8 := hS8.nx hk); (try replace hW8 := hW8.nx hk); (try replace hSs := hSs.nx hk); (try replace hWs := hWs.nx hk); clear hk; go_wp2_with fail; refine hK.out _ _ (by exact ⟨⟨zE.c0, zE.c1⟩, zV.e15, zF.d4⟩) ?_; clear hK K; (try simp only [Act.put, qqA, qqB, qqC]))
      | ((with_reducible refine callAt 125 ?_); refine (written_c A A2 64 c 0 c2 B ss [] x9 s9 wv (h.below zX hB) (h2.below zX hB) (ntr hB zX.size) (by omega) (by omega)).mono ?_; rintro e wv ⟨A8, n8, c8, A9, n9, c9, rfl, hS8, hW8, hk⟩; obtain rfl : n8 = 64 := hS8.1.symm.trans h.1; obtain rfl : n9 = 1 := hW8.1.symm; (try replace bz := bz.nx hk); replace zE := zE.nx hk; replace zF := zF.nx hk; replace zV := zV.nx hk; replace zR := zR.nx hk; replace zP := zP.nx hk; replace zX := zX.trans hk; (try replace hSq := hSq.nx hk); (try replace hSs := hSs.nx hk); (try replace hWs := hWs.nx hk); clear hk; go_wp2_with fail; refine hK.out _ _ (by exact ⟨⟨zE.c0, zE.c1⟩, zV.e15, zF.d4⟩) ?_; clear hK K; (try simp only [Act.put, qqA, qqB, qqC]))
      | ((with_reducible refine callAt 157 ?_); have HC := withSector_c V1.g V1.b V1.p V1.t V1.A V1.A2 V1.c V1.c2 wv.heap.size V1.xs V1.ms x9 wv zP.own.vlt.tab nle HXL.out; unfold RetSec at HC; rw [HX9.out] at HC; refine HC.mono ?_; clear HC; rintro e wv ⟨As, cs, rfl, _, hSs, hk⟩; (try replace bz := bz.nx hk); replace zE := zE.nx hk; replace zF := zF.nx hk; replace zV := zV.nx hk; replace zR := zR.nx hk; replace zP := zP.nx hk; replace zX := zX.trans hk; (try replace hSq := hSq.nx hk); (try replace hS8 := hS8.nx hk); (try replace hW8 := hW8.nx hk); (try replace hWs := hWs.nx hk); clear hk; go_wp2_with fail; refine hK.out _ _ (by exact ⟨⟨zE.c0, zE.c1⟩, zV.e15, zF.d4⟩) ?_; clear hK K; (try simp only [Act.put, qqA, qqB, qqC]))
      | ((with_reducible refine callAt 54 ?_); refine (withSuper_c A8 A9 64 c8 1 c9 wv.heap.size ss ([] ++ [(x9, s9)]) V1.g V1.b V1.p V1.t As V1.A2 cs V1.c2 X9 V1.ms wv a0 a1 hS8.strs hW8.wrs hSs.row zP.own.vlt.mks nle HDp.out HS1.out (hE.nx zX) (hM.nx zX) (hEt.nx zX) (hT.nx zX)).mono ?_; intro e wv hrw; obtain ⟨hk, Da, dn, dc, Db, en, ec, E, rfl, hWs⟩ := hrw.one HNU.out; clear hrw; replace hWs := hWs.low zX.size; have hDone := True.intro; (try replace bz := bz.nx hk); replace zE := zE.nx hk; replace zF := zF.nx hk; replace zV := zV.nx hk; replace zR := zR.nx hk; replace zP := zP.nx hk; replace zX := zX.trans hk; (try replace hSq := hSq.nx hk); (try replace hS8 := hS8.nx hk); (try replace hW8 := hW8.nx hk); (try replace hSs := hSs.nx hk); clear hk; go_wp2_with fail; refine hK.out _ _ (by exact ⟨⟨zE.c0, zE.c1⟩, zV.e15, zF.d4⟩) ?_; clear hK K; (try simp only [Act.put, qqA, qqB, qqC]))
      | (have bz := Box.new wv 35 #[nsl, nsl]; have hz := (Nx.refl wv).alloc (.cells #[nsl, nsl] 35); have hnE := Nat.ne_of_lt zE.lt; have hnV := Nat.ne_of_lt zV.lt; have hnF := Nat.ne_of_lt zF.lt; have hnR := Nat.ne_of_lt zR.lt; have hgz := zX.size; (try replace bz := bz.nx hz); replace zE := zE.nx hz; replace zF := zF.nx hz; replace zV := zV.nx hz; replace zR := zR.nx hz; replace zP := zP.nx hz; replace zX := zX.trans hz; (try replace hSq := hSq.nx hz); (try replace hS8 := hS8.nx hz); (try replace hW8 := hW8.nx hz); (try replace hSs := hSs.nx hz); (try replace hWs := hWs.nx hz); refine hK.out _ _ (by exact ⟨⟨zE.c0, zE.c1⟩, zV.e15, zF.d4⟩) ?_; clear hK K; (try simp only [Act.put, qqA, qqB, qqC]); clear hz; change HP _ _ _ _ _ _ (wv.alloc (.cells #[nsl, nsl] 35)); generalize wv.heap.size = gz at *; generalize wv.alloc (.cells #[nsl, nsl] 35) = wv at *)))
 intro gz Da dn dc Db en ec E Wq Aq cq A8 c8 A9 c9 As cs ⟨zB, zR, zX, hWR⟩
 rcases hWR with ⟨hg, rfl⟩ | ⟨hg, rfl, hSd, hWd⟩
 · have HR2 := qh (HN.out 7 (apC_full HP0.out (.inr (HsV.out.g.symm.trans hg))) (by decide))
   have m0 := zR.c0
   have m1 := zR.c1
   have mf0 := zR.frozen 0
   have mf1 := zR.frozen 1
   unfold slE
   go_wp2_with fail
   refine (slotCode_c z9 7 _ (hEt.nx zX)).mono ?_
   rintro e w9 ⟨rfl, hk⟩
   replace zR := zR.nx hk
   replace zX := zX.trans hk
   replace m0 := zR.c0
   replace m1 := zR.c1
   replace mf0 := zR.frozen 0
   replace mf1 := zR.frozen 1
   clear hk
   go_wp2_with fail
   have rq := (zR.set0 (nsl)).set1 (nsl)
   have hnf := (zX.setCell (p := ⟨gR, 0, none⟩) hgR (nsl)).setCell (p := ⟨gR, 1, none⟩) hgR (nsl)
   generalize (w9.setCell ⟨gR, 0, none⟩ (nsl)).setCell ⟨gR, 1, none⟩ (nsl) = Wf at *
   clear m0 m1 mf0 mf1
   have q0 := rq.c0
   have q1 := rq.c1
   go_wp2
   exact bodyPost_ret (v := .tuple #[.agg #[nsl, nsl], ii 7]) (by simp [results, Tryz.results75, go_sem, q0, q1]) rfl (RetDiskCode.nil HR2.out hnf)
 have HR2 : Hid (R = ((settleTo kpAll ss ([] ++ [(x9, s9)]) 1, [(1 - z9, supT (V1.g + 1) V1.b V1.p V1.t X9 V1.ms)]), 0)) := qh (by
  rw [← HR.out, wwP_yes HL.out (apC_yes HP0.out h20.out (by rw [← HsV.out.g]; exact hg))]
  unfold apD
  rw [HXe.out, Hs9.out, Hz9.out, ← HX9.out, settle_put, HsV.out.g, HsV.out.b, HsV.out.p, HsV.out.t, HsV.out.xs, HsV.out.ms])
 have m0 := zR.c0
 have m1 := zR.c1
 have mf0 := zR.frozen 0
 have mf1 := zR.frozen 1
 have n0' := zB.c0
 have n1' := zB.c1
 go_wp2_with fail
 have rq := (zR.set0 (.slice Da dn dc)).set1 (.slice Db en ec)
 have hnf := (zX.setCell (p := ⟨gR, 0, none⟩) hgR (.slice Da dn dc)).setCell (p := ⟨gR, 1, none⟩) hgR (.slice Db en ec)
 have hSf := hSd.twoW zR (.slice Da dn dc) (.slice Db en ec)
 have hWf := hWd.twoW zR (.slice Da dn dc) (.slice Db en ec)
 generalize (Wq.setCell ⟨gR, 0, none⟩ (.slice Da dn dc)).setCell ⟨gR, 1, none⟩ (.slice Db en ec) = Wf at *
 clear m0 m1 mf0 mf1 n0' n1'
 have q0 := rq.c0
 have q1 := rq.c1
 exact bodyPost_ret (v := .tuple #[.agg #[.slice Da dn dc, .slice Db en ec], ii 0]) (by simp [results, Tryz.results75, go_sem, q0, q1]) rfl (RetDiskCode.mk HR2.out hSf hWf hnf)
theorem askD_disk {ss : List BA} {ws : List (Int × BA)} {p b v t : Int} (h : diskB ss ws = false) : askD ss ws p b v t = false := by unfold askD; rw [h]; rfl
theorem askD_wait {ss : List BA} {ws : List (Int × BA)} {p b v t : Int} (h : ws.length ≠ 0) : askD ss ws p b v t = false := by unfold askD; rw [decide_eq_false h]; simp
theorem askD_of {ss : List BA} {ws : List (Int × BA)} {p b v t : Int} (h : diskB ss ws = true) (h2 : ws.length = 0) : askD ss ws p b v t = frameB p b v t := by unfold askD; rw [h, decide_eq_true h2]; rfl
def idleB (ss : List BA) (ws : List (Int × BA)) : Bool := diskB ss ws && decide (ws.length = 0)
theorem l05Ask_c (A A2 : Option Addr) (n c n2 c2 B : Nat) (ss : List BA) (ws : List (Int × BA)) (p b v t : Int) (w : World) (h : Strs w B A n ss) (h2 : Wrs w B A2 n2 ws) (hB : B ≤ w.heap.size) (hn : n ≤ 1048576) (hn2 : n2 ≤ 1048576) :
 Calls Tryz.prog 76 #[.agg #[.slice A n c, .slice A2 n2 c2], .agg #[ii p, ii b, ii v, ii t]] w fun e w' => e = .returned (.bool (askD ss ws p b v t)) ∧ Nx w w' := by
 have e0 : Box ((w.alloc (.cells #[.slice A n c, .slice A2 n2 c2] 35)).alloc (.cells #[ii p, ii b, ii v, ii t] 55)) w.heap.size 35 #[.slice A n c, .slice A2 n2 c2] := (Box.new w _ _).alloc _
 have f0 : Box ((w.alloc (.cells #[.slice A n c, .slice A2 n2 c2] 35)).alloc (.cells #[ii p, ii b, ii v, ii t] 55)) (w.heap.size + 1) 55 #[ii p, ii b, ii v, ii t] := by have := Box.new (w.alloc (.cells #[.slice A n c, .slice A2 n2 c2] 35)) 55 #[ii p, ii b, ii v, ii t]; rwa [World.size_alloc] at this
 have hx0 := ((Nx.refl w).alloc (.cells #[.slice A n c, .slice A2 n2 c2] 35)).alloc (.cells #[ii p, ii b, ii v, ii t] 55)
 have hl := h2.1
 go_enter Tryz.func76, Tryz.ntmps76
 go_wp2_with fail
 generalize (w.alloc (.cells #[.slice A n c, .slice A2 n2 c2] 35)).alloc (.cells #[ii p, ii b, ii v, ii t] 55) = W at *
 refine (specDiskOK_c A A2 n c n2 c2 B ss ws W (h.below hx0 hB) (h2.below hx0 hB) (ntr hB hx0.size) hn hn2).mono ?_
 rintro e w1 ⟨rfl, hk⟩
 have e1 := e0.nx hk
 have f1 := f0.nx hk
 have hx1 := hx0.trans hk
 cases hD : diskB ss ws with
 | false =>
   have HA := qh (askD_disk (p := p) (b := b) (v := v) (t := t) hD)
   clear hD
   go_wp2
   go_ret
   exact ⟨ret_bool HA.out.symm, hx1⟩
 | true =>
   have z1 := e1.c1
   by_cases h0 : n2 = 0
   case neg =>
    have HA := qh (askD_wait (ss := ss) (p := p) (b := b) (v := v) (t := t) (show ws.length ≠ 0 by omega))
    have hd : ((n2 : Int) == 0) = false := by rw [beq_eq_false_iff_ne]; omega
    clear hD
    go_wp2
    go_ret
    exact ⟨ret_bool HA.out.symm, hx1⟩
   have HA := qh (askD_of (p := p) (b := b) (v := v) (t := t) hD (show ws.length = 0 by omega))
   have hd : ((n2 : Int) == 0) = true := by rw [beq_iff_eq]; omega
   obtain ⟨y0, y1, y2, y3⟩ := f1.d4
   clear hD
   go_wp2_with fail
   refine (specFrameOK_c p b v t w1).mono ?_
   rintro e w2 ⟨rfl, hk2⟩
   go_wp2
   go_ret
   exact ⟨ret_bool HA.out.symm, hx1.trans hk2⟩
theorem isIdle_c (A A2 : Option Addr) (n c n2 c2 B : Nat) (ss : List BA) (ws : List (Int × BA)) (w : World) (h : Strs w B A n ss) (h2 : Wrs w B A2 n2 ws) (hB : B ≤ w.heap.size) (hn : n ≤ 1048576) (hn2 : n2 ≤ 1048576) :
 Calls Tryz.prog 73 #[.agg #[.slice A n c, .slice A2 n2 c2]] w fun e w' => e = .returned (.bool (idleB ss ws)) ∧ Nx w w' := by
 have e0 := Box.new w 35 #[.slice A n c, .slice A2 n2 c2]
 have hx0 := (Nx.refl w).alloc (.cells #[.slice A n c, .slice A2 n2 c2] 35)
 have hl := h2.1
 go_enter Tryz.func73, Tryz.ntmps73
 go_wp2_with fail
 generalize w.alloc (.cells #[.slice A n c, .slice A2 n2 c2] 35) = W at *
 refine (isRight_c A A2 n c n2 c2 B ss ws W (h.below hx0 hB) (h2.below hx0 hB) (ntr hB hx0.size) hn hn2).mono ?_
 rintro e w1 ⟨rfl, hk⟩
 have e1 := e0.nx hk
 have hx1 := hx0.trans hk
 cases hD : diskB ss ws with
 | false =>
   have HA : Hid (idleB ss ws = false) := qh (by unfold idleB; rw [hD]; rfl)
   clear hD
   go_wp2
   go_ret
   exact ⟨ret_bool HA.out.symm, hx1⟩
 | true =>
   have z1 := e1.c1
   have HA : Hid (idleB ss ws = decide (ws.length = 0)) := qh (by unfold idleB; rw [hD]; rfl)
   clear hD
   by_cases h0 : n2 = 0
   · have hd : ((n2 : Int) == 0) = true := by rw [beq_iff_eq]; omega
     have HB : Hid (decide (ws.length = 0) = true) := qh (decide_eq_true (by omega))
     go_wp2
     go_ret
     exact ⟨ret_bool (by rw [HA.out, HB.out]), hx1⟩
   · have hd : ((n2 : Int) == 0) = false := by rw [beq_eq_false_iff_ne]; omega
     have HB : Hid (decide (ws.length = 0) = false) := qh (decide_eq_false (by omega))
     go_wp2
     go_ret
     exact ⟨ret_bool (by rw [HA.out, HB.out]), hx1⟩
theorem askD_yes {ss : List BA} {ws : List (Int × BA)} {p b v t : Int} (h : askD ss ws p b v t = true) : diskB ss [] = true ∧ ws = [] ∧ frameB p b v t = true ∧ ∃ n : Nat, b = (n : Int) := by
 unfold askD at h
 simp only [Bool.and_eq_true, decide_eq_true_eq] at h
 have hw : ws = [] := List.length_eq_zero_iff.1 h.1.2
 subst hw
 exact ⟨h.1.1, rfl, h.2, b.toNat, (Int.toNat_of_nonneg (frameB_yes h.2).2.1.1).symm⟩
theorem apC_zero {V : Vl} {cd p : Int} (h : apC V cd p = 0) : cd = 0 ∧ p = V.tip + 1 ∧ V.gs.length ≠ 20 ∧ V.g ≠ 999999 := by
 unfold apC at h
 by_cases h0 : cd ≠ 0
 · rw [if_pos h0] at h; exact absurd h h0
 rw [if_neg h0] at h
 by_cases h1 : p ≤ V.tip
 · rw [if_pos h1] at h; exact absurd h (by decide)
 rw [if_neg h1] at h
 by_cases h2 : V.tip + 1 < p
 · rw [if_pos h2] at h; exact absurd h (by decide)
 rw [if_neg h2] at h
 by_cases h3 : V.gs.length = 20 ∨ V.g = 999999
 · rw [if_pos h3] at h; exact absurd h (by decide)
 exact ⟨by omega, by omega, fun e => h3 (.inl e), fun e => h3 (.inr e)⟩
theorem apP_disk {ss : List BA} {p v t : Int} {n : Nat} (hD : diskB ss [] = true) (hF : frameB p (n : Int) v t = true) : diskB (apP ss p n v t).1.1 (apP ss p n v t).1.2 = true := by
 obtain ⟨⟨V, cd⟩, hL⟩ : ∃ q, ldV ss [] = q := ⟨_, rfl⟩
 by_cases hc : apC V cd p = 0
 · rw [apP_yes hL hc]
   obtain ⟨h0, h1, h2, h3⟩ := apC_zero hc
   subst h0
   have hA : Asked ss V p n v t := ⟨hD, ldV_ldY hL, hF, h1, h2, h3⟩
   exact hA.disk1
 · rw [apP_no hL rfl hc]; exact hD
theorem ww_ap_no {ss : List BA} {p v t k : Int} {n : Nat} (h : (wwP ss p n v t).2 = k) (h0 : k ≠ 0) : apP ss p n v t = ((ss, []), k) := by
 by_cases hc : apC (ldV ss []).1 (ldV ss []).2 p = 0
 · unfold wwP at h; rw [if_pos hc] at h; exact absurd h.symm h0
 · unfold wwP at h; rw [if_neg hc] at h
   unfold apP; rw [if_neg hc, ← h]
theorem ww_ap_yes {ss : List BA} {p v t cd : Int} {n : Nat} {P1 : List BA} {P2 : List (Int × BA)} (h : (wwP ss p n v t).2 = 0) (h2 : apP ss p n v t = ((P1, P2), cd)) : wwP ss p n v t = ((P1, P2), 0) ∧ cd = 0 := by
 by_cases hc : apC (ldV ss []).1 (ldV ss []).2 p = 0
 · unfold apP at h2; rw [if_pos hc] at h2
   unfold wwP; rw [if_pos hc]
   injection h2 with h3 h4
   exact ⟨by rw [h3], h4.symm⟩
 · unfold wwP at h; rw [if_neg hc] at h; exact absurd h hc
theorem specAppendTorn_c (A A2 : Option Addr) (n c n2 c2 B : Nat) (ss : List BA) (ws : List (Int × BA)) (p b v t : Int) (A3 : Option Addr) (m c3 : Nat) (bs : List Bool) (w : World) (h : Strs w B A n ss) (h2 : Wrs w B A2 n2 ws) (hB : B ≤ w.heap.size) (hn : n ≤ 1048576) (hn2 : n2 ≤ 1048576) (h3 : Bls w B A3 m bs) (hm2 : m ≤ 1048576) :
 Calls Tryz.prog 31 #[.agg #[.slice A n c, .slice A2 n2 c2], .agg #[ii p, ii b, ii v, ii t], .slice A3 m c3] w (RetDiskCode w (awT ss ws p b v t bs).1.1 (awT ss ws p b v t bs).1.2 (awT ss ws p b v t bs).2) := by
 obtain ⟨R, HR⟩ : ∃ q, Hid (awT ss ws p b v t bs = q) := ⟨_, rfl⟩
 rw [HR.out]
 by_cases hlong : 4096 < bs.length
 · have hd0 : decide (4096 < (m : Int)) = true := decide_eq_true (by have := h3.1; omega)
   have HR2 : Hid (R = (([], []), 2)) := qh (by rw [← HR.out]; unfold awT; rw [if_pos hlong])
   have zE : Box (((w.alloc (.cells #[.slice A n c, .slice A2 n2 c2] 35)).alloc (.cells #[ii p, ii b, ii v, ii t] 55)).alloc (.cells #[nsl, nsl] 35)) w.heap.size 35 #[.slice A n c, .slice A2 n2 c2] := ((Box.new w _ _).alloc _).alloc _
   have zF : Box (((w.alloc (.cells #[.slice A n c, .slice A2 n2 c2] 35)).alloc (.cells #[ii p, ii b, ii v, ii t] 55)).alloc (.cells #[nsl, nsl] 35)) (w.heap.size + 1) 55 #[ii p, ii b, ii v, ii t] := by have := (Box.new (w.alloc (.cells #[.slice A n c, .slice A2 n2 c2] 35)) 55 #[ii p, ii b, ii v, ii t]).alloc (.cells #[nsl, nsl] 35); rwa [World.size_alloc] at this
   have zR : Box (((w.alloc (.cells #[.slice A n c, .slice A2 n2 c2] 35)).alloc (.cells #[ii p, ii b, ii v, ii t] 55)).alloc (.cells #[nsl, nsl] 35)) (w.heap.size + 1 + 1) 35 #[nsl, nsl] := by have := Box.new ((w.alloc (.cells #[.slice A n c, .slice A2 n2 c2] 35)).alloc (.cells #[ii p, ii b, ii v, ii t] 55)) 35 #[nsl, nsl]; rwa [World.size_alloc, World.size_alloc] at this
   have zX := (((Nx.refl w).alloc (.cells #[.slice A n c, .slice A2 n2 c2] 35)).alloc (.cells #[ii p, ii b, ii v, ii t] 55)).alloc (.cells #[nsl, nsl] 35)
   have hgR : w.heap.size ≤ w.heap.size + 1 + 1 := by omega
   obtain ⟨gR, HgR⟩ : ∃ g, Hid (w.heap.size + 1 + 1 = g) := ⟨_, rfl⟩
   rw [HgR.out] at zR hgR
   go_enter Tryz.func31, Tryz.ntmps31
   have m0 := zR.c0
   have m1 := zR.c1
   have mf0 := zR.frozen 0
   have mf1 := zR.frozen 1
   rw [← HgR.out] at m0 m1 mf0 mf1 zR hgR
   go_wp2
   have rq := (zR.set0 (nsl)).set1 (nsl)
   have hnf := (zX.setCell (p := ⟨w.heap.size + 1 + 1, 0, none⟩) hgR (nsl)).setCell (p := ⟨w.heap.size + 1 + 1, 1, none⟩) hgR (nsl)
   exact bodyPost_ret (v := .tuple #[.agg #[nsl, nsl], ii 2]) (by simp [results, Tryz.results31, go_sem]) rfl (RetDiskCode.nil HR2.out ((((Nx.refl _).alloc _).alloc _).alloc _))
 have hd0 : decide (4096 < (m : Int)) = false := decide_eq_false (by have := h3.1; omega)
 have HR : Hid ((if askD ss ws p b v t then ((settleTo (kpC bs) (apP ss p b.toNat v t).1.1 (apP ss p b.toNat v t).1.2 (apP ss p b.toNat v t).1.2.length, []), (apP ss p b.toNat v t).2) else (([], []), 1)) = R) := qh (by rw [← HR.out]; unfold awT; rw [if_neg hlong])
 have HLn := qh hlong
 clear hlong
 have zE : Box (((w.alloc (.cells #[.slice A n c, .slice A2 n2 c2] 35)).alloc (.cells #[ii p, ii b, ii v, ii t] 55)).alloc (.cells #[nsl, nsl] 35)) w.heap.size 35 #[.slice A n c, .slice A2 n2 c2] := ((Box.new w _ _).alloc _).alloc _
 have zF : Box (((w.alloc (.cells #[.slice A n c, .slice A2 n2 c2] 35)).alloc (.cells #[ii p, ii b, ii v, ii t] 55)).alloc (.cells #[nsl, nsl] 35)) (w.heap.size + 1) 55 #[ii p, ii b, ii v, ii t] := by have := (Box.new (w.alloc (.cells #[.slice A n c, .slice A2 n2 c2] 35)) 55 #[ii p, ii b, ii v, ii t]).alloc (.cells #[nsl, nsl] 35); rwa [World.size_alloc] at this
 have zR : Box (((w.alloc (.cells #[.slice A n c, .slice A2 n2 c2] 35)).alloc (.cells #[ii p, ii b, ii v, ii t] 55)).alloc (.cells #[nsl, nsl] 35)) (w.heap.size + 1 + 1) 35 #[nsl, nsl] := by have := Box.new ((w.alloc (.cells #[.slice A n c, .slice A2 n2 c2] 35)).alloc (.cells #[ii p, ii b, ii v, ii t] 55)) 35 #[nsl, nsl]; rwa [World.size_alloc, World.size_alloc] at this
 have zX := (((Nx.refl w).alloc (.cells #[.slice A n c, .slice A2 n2 c2] 35)).alloc (.cells #[ii p, ii b, ii v, ii t] 55)).alloc (.cells #[nsl, nsl] 35)
 have hgR : w.heap.size ≤ w.heap.size + 1 + 1 := by omega
 obtain ⟨gR, HgR⟩ : ∃ g, Hid (w.heap.size + 1 + 1 = g) := ⟨_, rfl⟩
 go_enter Tryz.func31, Tryz.ntmps31
 have y0 := zE.c0
 have y1 := zE.c1
 obtain ⟨x0, x1, x2, x3⟩ := zF.d4
 go_wp2_with fail
 generalize (((w.alloc (.cells #[.slice A n c, .slice A2 n2 c2] 35)).alloc (.cells #[ii p, ii b, ii v, ii t] 55)).alloc (.cells #[nsl, nsl] 35)) = W at *
 rw [HgR.out] at zR hgR ⊢
 clear y0 y1 x0 x1 x2 x3
 refine (l05Ask_c A A2 n c n2 c2 B ss ws p b v t W (h.below zX hB) (h2.below zX hB) (ntr hB zX.size) hn hn2).mono ?_
 rintro e w1 ⟨rfl, hk⟩
 replace zE := zE.nx hk; replace zF := zF.nx hk; replace zR := zR.nx hk; replace zX := zX.trans hk; clear hk
 cases hA : askD ss ws p b v t with
 | false =>
   have HR2 : Hid (R = (([], []), 1)) := qh (by rw [← HR.out, hA]; rfl)
   clear hA
   have m0 := zR.c0
   have m1 := zR.c1
   have mf0 := zR.frozen 0
   have mf1 := zR.frozen 1
   go_wp2_with fail
   have rq := (zR.set0 (nsl)).set1 (nsl)
   have hnf := (zX.setCell (p := ⟨gR, 0, none⟩) hgR (nsl)).setCell (p := ⟨gR, 1, none⟩) hgR (nsl)
   generalize (w1.setCell ⟨gR, 0, none⟩ (nsl)).setCell ⟨gR, 1, none⟩ (nsl) = Wf at *
   clear m0 m1 mf0 mf1
   have q0 := rq.c0
   have q1 := rq.c1
   go_wp2
   exact bodyPost_ret (v := .tuple #[.agg #[nsl, nsl], ii 1]) (by simp [results, Tryz.results31, go_sem, q0, q1]) rfl (RetDiskCode.nil HR2.out hnf)
 | true =>
 obtain ⟨hD, hw0, hF, n0, hb0⟩ := askD_yes hA
 subst hw0 hb0
 have HR2 : Hid (R = ((settleTo (kpC bs) (apP ss p n0 v t).1.1 (apP ss p n0 v t).1.2 (apP ss p n0 v t).1.2.length, []), (apP ss p n0 v t).2)) := qh (by rw [← HR.out, hA]; rfl)
 have HAD := qh (apP_disk (p := p) (v := v) (t := t) (n := n0) hD hF)
 have HD := qh hD
 have HFr := qh hF
 clear hA HR hD hF
 obtain rfl : n = 64 := by rw [← h.1]; exact (diskB_len64 HD.out).1
 obtain rfl : n2 = 0 := h2.1.symm
 have y0 := zE.c0
 have y1 := zE.c1
 obtain ⟨x0, x1, x2, x3⟩ := zF.d4
 go_wp2_with fail
 clear y0 y1 x0 x1 x2 x3
 refine (l05Append_c A A2 64 c 0 c2 B ss p v t n0 w1 (h.below zX hB) (h2.below zX hB) (ntr hB zX.size) HD.out HFr.out).mono ?_
 rintro e w2 ⟨Aa, an, ac, Ba, bn, bc, rfl, hSa, hWa, hk⟩
 replace zE := zE.nx hk; replace zF := zF.nx hk; replace zR := zR.nx hk; replace zX := zX.trans hk; clear hk
 obtain ⟨⟨⟨P1, P2⟩, cd⟩, HP⟩ : ∃ q, Hid (apP ss p n0 v t = q) := ⟨_, rfl⟩
 rw [HP.out] at hSa hWa HR2 HAD ⊢
 simp only at hSa hWa ⊢
 obtain rfl : an = 64 := by rw [← hSa.1]; exact (diskB_len64 HAD.out).1
 have hb80 : bn ≤ 80 := by rw [← hWa.1]; exact (diskB_len64 HAD.out).2.1
 have HWo := qh (diskB_len64 HAD.out).2.2.2
 have HR3 : Hid (R = ((settleTo (kpC bs) P1 P2 bn, []), cd)) := qh (by rw [HR2.out, ← hWa.1])
 go_wp2_with fail
 have hk := (Nx.refl w2).alloc (.cells #[.slice Aa 64 ac, .slice Ba bn bc] 35)
 replace hSa := hSa.below hk nle
 replace hWa := hWa.below hk nle
 have hs2 := hk.size
 replace zE := zE.nx hk; replace zF := zF.nx hk; replace zR := zR.nx hk; replace zX := zX.trans hk; clear hk
 change Calls _ _ _ (w2.alloc (.cells #[.slice Aa 64 ac, .slice Ba bn bc] 35)) _
 generalize w2.alloc (.cells #[.slice Aa 64 ac, .slice Ba bn bc] 35) = w3 at *
 refine (l01Crash_c Aa Ba ac bn bc w3.heap.size A3 m c3 bs P1 P2 w3 (hSa.more hs2) (hWa.more hs2) ((h3.below zX hB).more (ntr hB zX.size)) hm2 nle hb80 HWo.out).mono ?_
 rintro e w4 ⟨A8, n8, c8, A9, n9, c9, rfl, hS8, hW8, hk⟩
 have hz3 := zX.size
 replace zE := zE.nx hk; replace zF := zF.nx hk; replace zR := zR.nx hk; replace zX := zX.trans hk; clear hk
 replace hS8 := hS8.low (lo' := w.heap.size) hz3
 replace hW8 := hW8.low (lo' := w.heap.size) hz3
 have m0 := zR.c0
 have m1 := zR.c1
 have mf0 := zR.frozen 0
 have mf1 := zR.frozen 1
 go_wp2_with fail
 have rq := (zR.set0 (.slice A8 n8 c8)).set1 (.slice A9 n9 c9)
 have hnf := (zX.setCell (p := ⟨gR, 0, none⟩) hgR (.slice A8 n8 c8)).setCell (p := ⟨gR, 1, none⟩) hgR (.slice A9 n9 c9)
 have hSf := hS8.twoW zR (.slice A8 n8 c8) (.slice A9 n9 c9)
 have hWf := hW8.twoW zR (.slice A8 n8 c8) (.slice A9 n9 c9)
 generalize (w4.setCell ⟨gR, 0, none⟩ (.slice A8 n8 c8)).setCell ⟨gR, 1, none⟩ (.slice A9 n9 c9) = Wf at *
 clear m0 m1 mf0 mf1
 have q0 := rq.c0
 have q1 := rq.c1
 go_wp2
 exact bodyPost_ret (v := .tuple #[.agg #[.slice A8 n8 c8, .slice A9 n9 c9], ii cd]) (by simp [results, Tryz.results31, go_sem, q0, q1]) rfl (RetDiskCode.mk HR3.out hSf hWf hnf)
theorem specAppendTorn_r (A A2 : Option Addr) (n c n2 c2 B : Nat) (ss : List BA) (ws : List (Int × BA)) (p b v t : Int) (A3 : Option Addr) (m c3 : Nat) (bs : List Bool) (w : World) (R1 : List BA) (R2 : List (Int × BA)) (cd : Int) (HP : awT ss ws p b v t bs = ((R1, R2), cd)) (h : Strs w B A n ss) (h2 : Wrs w B A2 n2 ws) (hB : B ≤ w.heap.size) (hn : n ≤ 1048576) (hn2 : n2 ≤ 1048576) (h3 : Bls w B A3 m bs) (hm2 : m ≤ 1048576) :
 Calls Tryz.prog 31 #[.agg #[.slice A n c, .slice A2 n2 c2], .agg #[ii p, ii b, ii v, ii t], .slice A3 m c3] w (RetDiskCode w R1 R2 cd) := by
 have := specAppendTorn_c A A2 n c n2 c2 B ss ws p b v t A3 m c3 bs w h h2 hB hn hn2 h3 hm2
 rw [HP] at this
 exact this
theorem implAppendTorn_c (A A2 : Option Addr) (n c n2 c2 B : Nat) (ss : List BA) (ws : List (Int × BA)) (p b v t : Int) (A3 : Option Addr) (m c3 : Nat) (bs : List Bool) (w : World) (a0 a1 : Addr) (h : Strs w B A n ss) (h2 : Wrs w B A2 n2 ws) (hB : B ≤ w.heap.size) (hn : n ≤ 1048576) (hn2 : n2 ≤ 1048576) (h3 : Bls w B A3 m bs) (hm2 : m ≤ 1048576) (hE : Er w a0 a1) (hM : Mx w) (hEt : Et w) (hT : Tab w) :
 Calls Tryz.prog 29 #[.agg #[.slice A n c, .slice A2 n2 c2], .agg #[ii p, ii b, ii v, ii t], .slice A3 m c3] w (RetDiskCode w (awT ss ws p b v t bs).1.1 (awT ss ws p b v t bs).1.2 (awT ss ws p b v t bs).2) := by
 obtain ⟨R, HR⟩ : ∃ q, Hid (awT ss ws p b v t bs = q) := ⟨_, rfl⟩
 rw [HR.out]
 by_cases hlong : 4096 < bs.length
 · have hd0 : decide (4096 < (m : Int)) = true := decide_eq_true (by have := h3.1; omega)
   have HR2 : Hid (R = (([], []), 2)) := qh (by rw [← HR.out]; unfold awT; rw [if_pos hlong])
   have zE : Box (((w.alloc (.cells #[.slice A n c, .slice A2 n2 c2] 35)).alloc (.cells #[ii p, ii b, ii v, ii t] 55)).alloc (.cells #[nsl, nsl] 35)) w.heap.size 35 #[.slice A n c, .slice A2 n2 c2] := ((Box.new w _ _).alloc _).alloc _
   have zF : Box (((w.alloc (.cells #[.slice A n c, .slice A2 n2 c2] 35)).alloc (.cells #[ii p, ii b, ii v, ii t] 55)).alloc (.cells #[nsl, nsl] 35)) (w.heap.size + 1) 55 #[ii p, ii b, ii v, ii t] := by have := (Box.new (w.alloc (.cells #[.slice A n c, .slice A2 n2 c2] 35)) 55 #[ii p, ii b, ii v, ii t]).alloc (.cells #[nsl, nsl] 35); rwa [World.size_alloc] at this
   have zR : Box (((w.alloc (.cells #[.slice A n c, .slice A2 n2 c2] 35)).alloc (.cells #[ii p, ii b, ii v, ii t] 55)).alloc (.cells #[nsl, nsl] 35)) (w.heap.size + 1 + 1) 35 #[nsl, nsl] := by have := Box.new ((w.alloc (.cells #[.slice A n c, .slice A2 n2 c2] 35)).alloc (.cells #[ii p, ii b, ii v, ii t] 55)) 35 #[nsl, nsl]; rwa [World.size_alloc, World.size_alloc] at this
   have zX := (((Nx.refl w).alloc (.cells #[.slice A n c, .slice A2 n2 c2] 35)).alloc (.cells #[ii p, ii b, ii v, ii t] 55)).alloc (.cells #[nsl, nsl] 35)
   have hgR : w.heap.size ≤ w.heap.size + 1 + 1 := by omega
   obtain ⟨gR, HgR⟩ : ∃ g, Hid (w.heap.size + 1 + 1 = g) := ⟨_, rfl⟩
   rw [HgR.out] at zR hgR
   go_enter Tryz.func29, Tryz.ntmps29
   have m0 := zR.c0
   have m1 := zR.c1
   have mf0 := zR.frozen 0
   have mf1 := zR.frozen 1
   rw [← HgR.out] at m0 m1 mf0 mf1 zR hgR
   go_wp2
   have rq := (zR.set0 (nsl)).set1 (nsl)
   have hnf := (zX.setCell (p := ⟨w.heap.size + 1 + 1, 0, none⟩) hgR (nsl)).setCell (p := ⟨w.heap.size + 1 + 1, 1, none⟩) hgR (nsl)
   exact bodyPost_ret (v := .tuple #[.agg #[nsl, nsl], ii 2]) (by simp [results, Tryz.results29, go_sem]) rfl (RetDiskCode.nil HR2.out ((((Nx.refl _).alloc _).alloc _).alloc _))
 have hd0 : decide (4096 < (m : Int)) = false := decide_eq_false (by have := h3.1; omega)
 have HR : Hid ((if askD ss ws p b v t then ((settleTo (kpC bs) (apP ss p b.toNat v t).1.1 (apP ss p b.toNat v t).1.2 (apP ss p b.toNat v t).1.2.length, []), (apP ss p b.toNat v t).2) else (([], []), 1)) = R) := qh (by rw [← HR.out]; unfold awT; rw [if_neg hlong])
 have HLn := qh hlong
 clear hlong
 have zE : Box (((w.alloc (.cells #[.slice A n c, .slice A2 n2 c2] 35)).alloc (.cells #[ii p, ii b, ii v, ii t] 55)).alloc (.cells #[nsl, nsl] 35)) w.heap.size 35 #[.slice A n c, .slice A2 n2 c2] := ((Box.new w _ _).alloc _).alloc _
 have zF : Box (((w.alloc (.cells #[.slice A n c, .slice A2 n2 c2] 35)).alloc (.cells #[ii p, ii b, ii v, ii t] 55)).alloc (.cells #[nsl, nsl] 35)) (w.heap.size + 1) 55 #[ii p, ii b, ii v, ii t] := by have := (Box.new (w.alloc (.cells #[.slice A n c, .slice A2 n2 c2] 35)) 55 #[ii p, ii b, ii v, ii t]).alloc (.cells #[nsl, nsl] 35); rwa [World.size_alloc] at this
 have zR : Box (((w.alloc (.cells #[.slice A n c, .slice A2 n2 c2] 35)).alloc (.cells #[ii p, ii b, ii v, ii t] 55)).alloc (.cells #[nsl, nsl] 35)) (w.heap.size + 1 + 1) 35 #[nsl, nsl] := by have := Box.new ((w.alloc (.cells #[.slice A n c, .slice A2 n2 c2] 35)).alloc (.cells #[ii p, ii b, ii v, ii t] 55)) 35 #[nsl, nsl]; rwa [World.size_alloc, World.size_alloc] at this
 have zX := (((Nx.refl w).alloc (.cells #[.slice A n c, .slice A2 n2 c2] 35)).alloc (.cells #[ii p, ii b, ii v, ii t] 55)).alloc (.cells #[nsl, nsl] 35)
 have hgR : w.heap.size ≤ w.heap.size + 1 + 1 := by omega
 obtain ⟨gR, HgR⟩ : ∃ g, Hid (w.heap.size + 1 + 1 = g) := ⟨_, rfl⟩
 go_enter Tryz.func29, Tryz.ntmps29
 have y0 := zE.c0
 have y1 := zE.c1
 obtain ⟨x0, x1, x2, x3⟩ := zF.d4
 go_wp2_with fail
 generalize (((w.alloc (.cells #[.slice A n c, .slice A2 n2 c2] 35)).alloc (.cells #[ii p, ii b, ii v, ii t] 55)).alloc (.cells #[nsl, nsl] 35)) = W at *
 rw [HgR.out] at zR hgR ⊢
 clear y0 y1 x0 x1 x2 x3
 refine (isIdle_c A A2 n c n2 c2 B ss ws W (h.below zX hB) (h2.below zX hB) (ntr hB zX.size) hn hn2).mono ?_
 rintro e w1 ⟨rfl, hk⟩
 replace zE := zE.nx hk; replace zF := zF.nx hk; replace zR := zR.nx hk; replace zX := zX.trans hk; clear hk
 cases hI : idleB ss ws with
 | false =>
   have HR2 : Hid (R = (([], []), 1)) := qh (by rw [← HR.out, show askD ss ws p b v t = false from by unfold askD; unfold idleB at hI; rw [hI]; rfl]; rfl)
   clear hI
   have m0 := zR.c0
   have m1 := zR.c1
   have mf0 := zR.frozen 0
   have mf1 := zR.frozen 1
   go_wp2_with fail
   have rq := (zR.set0 (nsl)).set1 (nsl)
   have hnf := (zX.setCell (p := ⟨gR, 0, none⟩) hgR (nsl)).setCell (p := ⟨gR, 1, none⟩) hgR (nsl)
   generalize (w1.setCell ⟨gR, 0, none⟩ (nsl)).setCell ⟨gR, 1, none⟩ (nsl) = Wf at *
   clear m0 m1 mf0 mf1
   have q0 := rq.c0
   have q1 := rq.c1
   go_wp2
   exact bodyPost_ret (v := .tuple #[.agg #[nsl, nsl], ii 1]) (by simp [results, Tryz.results29, go_sem, q0, q1]) rfl (RetDiskCode.nil HR2.out hnf)
 | true =>
 have HI := qh hI
 clear hI
 obtain ⟨x0, x1, x2, x3⟩ := zF.d4
 go_wp2_with fail
 clear x0 x1 x2 x3
 refine (frameRight_c p b v t w1).mono ?_
 rintro e w1b ⟨rfl, hk⟩
 replace zE := zE.nx hk; replace zF := zF.nx hk; replace zR := zR.nx hk; replace zX := zX.trans hk; clear hk
 cases hFr : frameB p b v t with
 | false =>
   have HR2 : Hid (R = (([], []), 1)) := qh (by rw [← HR.out, show askD ss ws p b v t = false from by unfold askD; rw [hFr, Bool.and_false]]; rfl)
   clear hFr
   have m0 := zR.c0
   have m1 := zR.c1
   have mf0 := zR.frozen 0
   have mf1 := zR.frozen 1
   go_wp2_with fail
   have rq := (zR.set0 (nsl)).set1 (nsl)
   have hnf := (zX.setCell (p := ⟨gR, 0, none⟩) hgR (nsl)).setCell (p := ⟨gR, 1, none⟩) hgR (nsl)
   generalize (w1b.setCell ⟨gR, 0, none⟩ (nsl)).setCell ⟨gR, 1, none⟩ (nsl) = Wf at *
   clear m0 m1 mf0 mf1
   have q0 := rq.c0
   have q1 := rq.c1
   go_wp2
   exact bodyPost_ret (v := .tuple #[.agg #[nsl, nsl], ii 1]) (by simp [results, Tryz.results29, go_sem, q0, q1]) rfl (RetDiskCode.nil HR2.out hnf)
 | true =>
 have hA : askD ss ws p b v t = true := by have := HI.out; unfold askD; unfold idleB at this; rw [this, hFr]; rfl
 obtain ⟨hD, hw0, hF, n0, hb0⟩ := askD_yes hA
 subst hw0 hb0
 have HR2 : Hid (R = ((settleTo (kpC bs) (apP ss p n0 v t).1.1 (apP ss p n0 v t).1.2 (apP ss p n0 v t).1.2.length, []), (apP ss p n0 v t).2)) := qh (by rw [← HR.out, hA]; rfl)
 have HAD := qh (apP_disk (p := p) (v := v) (t := t) (n := n0) hD hF)
 have HD := qh hD
 have HFr := qh hF
 clear hA HR hD hF hFr
 obtain rfl : n = 64 := by rw [← h.1]; exact (diskB_len64 HD.out).1
 obtain rfl : n2 = 0 := h2.1.symm
 have y0 := zE.c0
 have y1 := zE.c1
 obtain ⟨x0, x1, x2, x3⟩ := zF.d4
 go_wp2_with fail
 clear y0 y1 x0 x1 x2 x3
 refine (withWrite_c A A2 64 c 0 c2 B ss p v t n0 w1b a0 a1 (h.below zX hB) (h2.below zX hB) (ntr hB zX.size) HD.out HFr.out (hE.nx zX) (hM.nx zX) (hEt.nx zX) (hT.nx zX)).mono ?_
 rintro e w2 ⟨Aa, an, ac, Ba, bn, bc, rfl, hSa, hWa, hk⟩
 have hz1 := zX.size
 replace zE := zE.nx hk; replace zF := zF.nx hk; replace zR := zR.nx hk; replace zX := zX.trans hk; clear hk
 obtain ⟨k, Hk⟩ : ∃ q, Hid ((wwP ss p n0 v t).2 = q) := ⟨_, rfl⟩
 rw [Hk.out]
 rcases Decidable.em (k = 0) with h0 | h0
 rotate_left
 · have HR3 : Hid (R = ((ss, []), k)) := qh (by rw [HR2.out, (ww_ap_no (Hk.out) h0)]; rfl)
   have hk := (Nx.refl w2).alloc (.cells #[.slice Aa an ac, .slice Ba bn bc] 35)
   replace zE := zE.nx hk; replace zF := zF.nx hk; replace zR := zR.nx hk; replace zX := zX.trans hk; clear hk
   have y0 := zE.c0
   have y1 := zE.c1
   go_wp2_with fail
   clear y0 y1
   generalize w2.alloc (.cells #[.slice Aa an ac, .slice Ba bn bc] 35) = w3 at *
   refine (copied_c A A2 64 c 0 c2 B ss [] w3 (h.below zX hB) (h2.below zX hB) (ntr hB zX.size) (by omega) (by omega)).mono ?_
   rintro e w4 ⟨A8, n8, c8, A9, n9, c9, rfl, hS8, hW8, hk⟩
   have hz3 := zX.size
   replace zE := zE.nx hk; replace zF := zF.nx hk; replace zR := zR.nx hk; replace zX := zX.trans hk; clear hk
   replace hS8 := hS8.low (lo' := w.heap.size) hz3
   replace hW8 := hW8.low (lo' := w.heap.size) hz3
   have m0 := zR.c0
   have m1 := zR.c1
   have mf0 := zR.frozen 0
   have mf1 := zR.frozen 1
   go_wp2_with fail
   have rq := (zR.set0 (.slice A8 n8 c8)).set1 (.slice A9 n9 c9)
   have hnf := (zX.setCell (p := ⟨gR, 0, none⟩) hgR (.slice A8 n8 c8)).setCell (p := ⟨gR, 1, none⟩) hgR (.slice A9 n9 c9)
   have hSf := hS8.twoW zR (.slice A8 n8 c8) (.slice A9 n9 c9)
   have hWf := hW8.twoW zR (.slice A8 n8 c8) (.slice A9 n9 c9)
   generalize (w4.setCell ⟨gR, 0, none⟩ (.slice A8 n8 c8)).setCell ⟨gR, 1, none⟩ (.slice A9 n9 c9) = Wf at *
   clear m0 m1 mf0 mf1
   have q0 := rq.c0
   have q1 := rq.c1
   go_wp2
   exact bodyPost_ret (v := .tuple #[.agg #[.slice A8 n8 c8, .slice A9 n9 c9], ii k]) (by simp [results, Tryz.results29, go_sem, q0, q1]) rfl (RetDiskCode.mk HR3.out hSf hWf hnf)
 obtain rfl : k = 0 := h0
 obtain ⟨⟨⟨P1, P2⟩, cd⟩, HP⟩ : ∃ q, Hid (apP ss p n0 v t = q) := ⟨_, rfl⟩
 have Hww : Hid (wwP ss p n0 v t = ((P1, P2), 0) ∧ cd = 0) := qh (ww_ap_yes Hk.out HP.out)
 obtain rfl : cd = 0 := Hww.out.2
 rw [Hww.out.1] at hSa hWa
 rw [HP.out] at HR2 HAD
 simp only at hSa hWa
 obtain rfl : an = 64 := by rw [← hSa.1]; exact (diskB_len64 HAD.out).1
 have hb80 : bn ≤ 80 := by rw [← hWa.1]; exact (diskB_len64 HAD.out).2.1
 have HWo := qh (diskB_len64 HAD.out).2.2.2
 have HR3 : Hid (R = ((settleTo (kpC bs) P1 P2 bn, []), 0)) := qh (by rw [HR2.out, ← hWa.1])
 have hk := (Nx.refl w2).alloc (.cells #[.slice Aa 64 ac, .slice Ba bn bc] 35)
 replace hSa := hSa.nx hk
 replace hWa := hWa.nx hk
 replace zE := zE.nx hk; replace zF := zF.nx hk; replace zR := zR.nx hk; replace zX := zX.trans hk; clear hk
 have u0 := (Box.new w2 35 #[.slice Aa 64 ac, .slice Ba bn bc]).c0
 have u1 := (Box.new w2 35 #[.slice Aa 64 ac, .slice Ba bn bc]).c1
 go_wp2_with fail
 clear u0 u1
 generalize w2.alloc (.cells #[.slice Aa 64 ac, .slice Ba bn bc] 35) = w3 at *
 have hCr := implCrashDisk_r Aa Ba 64 ac bn bc w3.heap.size P1 P2 A3 m c3 bs w3 (settleTo (kpC bs) P1 P2 bn) [] 0 (by rw [crP_ok HLn.out HAD.out, hWa.1]) hSa.strs hWa.wrs nle (by omega) (by omega) ((h3.below zX hB).more (ntr hB zX.size)) hm2
 refine hCr.mono ?_
 rintro e w4 ⟨A8, n8, c8, A9, n9, c9, rfl, hS8, hW8, hk⟩
 have hz3 := zX.size
 replace zE := zE.nx hk; replace zF := zF.nx hk; replace zR := zR.nx hk; replace zX := zX.trans hk; clear hk
 replace hS8 := hS8.low (lo' := w.heap.size) hz3
 replace hW8 := hW8.low (lo' := w.heap.size) hz3
 have m0 := zR.c0
 have m1 := zR.c1
 have mf0 := zR.frozen 0
 have mf1 := zR.frozen 1
 go_wp2_with fail
 have rq := (zR.set0 (.slice A8 n8 c8)).set1 (.slice A9 n9 c9)
 have hnf := (zX.setCell (p := ⟨gR, 0, none⟩) hgR (.slice A8 n8 c8)).setCell (p := ⟨gR, 1, none⟩) hgR (.slice A9 n9 c9)
 have hSf := hS8.twoW zR (.slice A8 n8 c8) (.slice A9 n9 c9)
 have hWf := hW8.twoW zR (.slice A8 n8 c8) (.slice A9 n9 c9)
 generalize (w4.setCell ⟨gR, 0, none⟩ (.slice A8 n8 c8)).setCell ⟨gR, 1, none⟩ (.slice A9 n9 c9) = Wf at *
 clear m0 m1 mf0 mf1
 have q0 := rq.c0
 have q1 := rq.c1
 go_wp2
 exact bodyPost_ret (v := .tuple #[.agg #[.slice A8 n8 c8, .slice A9 n9 c9], ii 0]) (by simp [results, Tryz.results29, go_sem, q0, q1]) rfl (RetDiskCode.mk HR3.out hSf hWf hnf)
theorem implAppendTorn_r (A A2 : Option Addr) (n c n2 c2 B : Nat) (ss : List BA) (ws : List (Int × BA)) (p b v t : Int) (A3 : Option Addr) (m c3 : Nat) (bs : List Bool) (w : World) (a0 a1 : Addr) (R1 : List BA) (R2 : List (Int × BA)) (cd : Int) (HP : awT ss ws p b v t bs = ((R1, R2), cd)) (h : Strs w B A n ss) (h2 : Wrs w B A2 n2 ws) (hB : B ≤ w.heap.size) (hn : n ≤ 1048576) (hn2 : n2 ≤ 1048576) (h3 : Bls w B A3 m bs) (hm2 : m ≤ 1048576) (hE : Er w a0 a1) (hM : Mx w) (hEt : Et w) (hT : Tab w) :
 Calls Tryz.prog 29 #[.agg #[.slice A n c, .slice A2 n2 c2], .agg #[ii p, ii b, ii v, ii t], .slice A3 m c3] w (RetDiskCode w R1 R2 cd) := by
 have := implAppendTorn_c A A2 n c n2 c2 B ss ws p b v t A3 m c3 bs w a0 a1 h h2 hB hn hn2 h3 hm2 hE hM hEt hT
 rw [HP] at this
 exact this
theorem mergeL0 {G : Nat → Option Addr → Nat → Option Addr → Nat → World → Prop} {F : Nat → Option Addr → Nat → Option Addr → Nat → World → Prop} {R : Prop} (main : (∀ g A c B d W, F g A c B d W → G g A c B d W ) → R) (key : ∀ g A c B d W, F g A c B d W → G g A c B d W ) : R := main key
theorem rg_put2 (u : World) (g : Nat) (v0 v1 : Value) : Rg g (g + 1) u ((u.setCell ⟨g, 0, none⟩ v0).setCell ⟨g, 1, none⟩ v1) :=
 ((Rg.of_nx (Nx.refl u)).setCell (p := ⟨g, 0, none⟩) nle (Nat.lt_succ_self _) v0).setCell (p := ⟨g, 1, none⟩) nle (Nat.lt_succ_self _) v1
end Go.Proofs.YtieoiailjjnnoaaGreatDoor
namespace Go.Proofs.YtieoiailjjnnoaaGreatDoor
set_option linter.unusedVariables false
set_option maxRecDepth 100000
set_option maxHeartbeats 16000000
open Go.ChangeShapes Go.WideShapes Go.RowKit Go.Deep
theorem info_bool : (Tryz.prog.info? 4).map (fun i => (i.zero, i.size, i.bytes)) = some (some (.bool false), 1, 1) := by kernel_rfl
def OwnB (w : World) (g : Nat) (bs : List Bool) : Prop := Own w g 4 bs.length (blAt bs)
def SrB (w : World) (lo hi : Nat) (A : Option Addr) (n : Nat) (bs : List Bool) : Prop := bs.length = n ∧ (0 < n → ∃ g, A = some ⟨g, 0, none⟩ ∧ lo ≤ g ∧ g < hi ∧ OwnB w g bs)
section
variable {w w' : World} {lo hi n a b : Nat} {A : Option Addr} {bs : List Bool}
theorem SrB.nx (h : SrB w lo hi A n bs) (hb : Nx w w') : SrB w' lo hi A n bs := ⟨h.1, fun hn => by obtain ⟨g, e, hl, hh, ho⟩ := h.2 hn; exact ⟨g, e, hl, hh, Own.nx ho hb⟩⟩
theorem SrB.rg (h : SrB w lo hi A n bs) (hb : Rg a b w w') (hd : hi ≤ a ∨ b ≤ lo) : SrB w' lo hi A n bs := ⟨h.1, fun hn => by obtain ⟨g, e, hl, hh, ho⟩ := h.2 hn; exact ⟨g, e, hl, hh, Own.rg ho hb (by omega)⟩⟩
theorem SrB.bls (h : SrB w lo hi A n bs) : Bls w w.heap.size A n bs := ⟨h.1, fun hn => by
 obtain ⟨g, e, hl, hh, ho⟩ := h.2 hn
 subst e
 have := Own.row ho (Own.lt ho)
 rw [h.1] at this
 exact this hn⟩
end
def RetB (w : World) (bs : List Bool) (e : Ending) (w' : World) : Prop := ∃ (A : Option Addr) (n c : Nat), e = .returned (.slice A n c) ∧ SrB w' w.heap.size w'.heap.size A n bs ∧ Nx w w'
theorem toBoolS_c (A : Option Addr) (n c B : Nat) (bs : List Bool) (w : World) (h : Bls w B A n bs) (hB : B ≤ w.heap.size) (hn : n ≤ 1048576) :
 Calls Tryz.prog 39 #[.slice A n c] w (RetB w bs) := by
 obtain ⟨i0, hi0, hz0, hz1, hz2⟩ := info_parts info_bool
 have hmk := fun W => run_make_rowN (P := Tryz.prog) 63 4 i0 _ Tryz.underlying63 hi0 hz0 .i64 .i64 n n nle (by rw [hz2]; omega) (by omega) W
 rw [hz1] at hmk
 have hmade := Own.made w #[Value.bool false] n 4
 go_enter Tryz.func39, Tryz.ntmps39
 go_wp2
 go_loopw [4] (fun i wr => ∃ k : Nat, k ≤ n ∧ i = ii k ∧ Fill wr w.heap.size 4 n k (blAt bs) ∧ Nx w wr) (fun i _ => n - (intOf i).toNat)
 case atStart => exact ⟨0, Nat.zero_le _, rfl, Fill.start hmade, (Nx.refl _).alloc _⟩
 case round =>
  obtain ⟨k, hk, rfl, hf, hnx⟩ := hrel
  by_cases hlt : k < n
  · obtain ⟨b, off, rfl, hb, hc⟩ := (h.below hnx hB).at_ hlt
    obtain ⟨v, hv⟩ := hf.some_ hlt
    have hz := hf.frozen k
    clear hmk hmade
    obtain ⟨s, Hs⟩ : ∃ s, Hid (bs.getD k false = s) := ⟨_, rfl⟩
    rw [Hs.out] at hc
    go_wp2
    go_roundw
    case rel => exact ⟨k + 1, by omega, by go_num, hf.step hlt (by unfold blAt; rw [Hs.out]), hnx.setCell nle _⟩
    case measure => simp [intOf]; omega
  · obtain rfl : k = n := by omega
    go_wp2
    go_ret
    refine ⟨_, k, k, rfl, ⟨h.1, fun _ => ⟨_, rfl, Nat.le_refl _, hf.lt, ?_⟩⟩, hnx⟩
    unfold OwnB
    rw [h.1]
    exact hf.done
theorem eqBoolS_c (A A2 : Option Addr) (n c c2 B : Nat) (bs : List Bool) (w : World) (h : Bls w B A n bs) (h2 : Bls w B A2 n bs) (hB : B ≤ w.heap.size) (hn : n ≤ 1048576) :
 Calls Tryz.prog 40 #[.slice A n c, .slice A2 n c2] w fun e w' => e = .returned (.bool true) ∧ Nx w w' := by
 go_enter Tryz.func40, Tryz.ntmps40
 go_wp2
 go_loopw [5] (fun i wr => ∃ k : Nat, k ≤ n ∧ i = ii k ∧ Nx w wr) (fun i _ => n - (intOf i).toNat)
 case atStart => exact ⟨0, Nat.zero_le _, rfl, Nx.refl _⟩
 case round =>
  obtain ⟨k, hk, rfl, hnx⟩ := hrel
  by_cases hlt : k < n
  · obtain ⟨b, off, rfl, hb, hc⟩ := (h.below hnx hB).at_ hlt
    obtain ⟨b2, off2, rfl, hb2, hc2⟩ := (h2.below hnx hB).at_ hlt
    generalize bs.getD k false = s at hc hc2
    go_wp2
    go_quiet (fail)
    go_wp2
    go_roundw
    case rel => exact ⟨k + 1, by omega, by go_num, hnx.drewN _⟩
    case measure => simp [intOf]; omega
  · go_wp2
    go_ret
    exact ⟨rfl, hnx⟩
theorem markBoolS_c (A : Option Addr) (n c k lo hi : Nat) (bs : List Bool) (w : World) (h : SrB w lo hi A n bs) (hi' : hi ≤ w.heap.size) (hn : n ≤ 1048576) (hk : k ≤ 1099500000000) :
 Calls Tryz.prog 41 #[.slice A n c, ii k] w fun e w' => e = .returned (ii ((k + n : Nat) : Int)) ∧ Rg lo hi w w' := by
 go_enter Tryz.func41, Tryz.ntmps41
 go_wp2
 go_loopw [1, 5] (fun q i wr => ∃ j : Nat, j ≤ n ∧ i = ii j ∧ q = ii ((k + j : Nat) : Int) ∧ (0 < n → ∃ g f, A = some ⟨g, 0, none⟩ ∧ lo ≤ g ∧ g < hi ∧ Own wr g 4 n f) ∧ Rg lo hi w wr) (fun _ i _ => n - (intOf i).toNat)
 case atStart =>
  refine ⟨0, Nat.zero_le _, rfl, rfl, fun hn0 => ?_, Rg.of_nx (Nx.refl _)⟩
  obtain ⟨g, e, h1, h2, ho⟩ := h.2 hn0
  unfold OwnB at ho
  rw [h.1] at ho
  exact ⟨g, _, e, h1, h2, ho⟩
 case round =>
  obtain ⟨j, hj, rfl, rfl, hf, hrg⟩ := hrel
  by_cases hlt : j < n
  · obtain ⟨g, f, rfl, hg1, hg2, ho⟩ := hf (by omega)
    obtain ⟨v, hv⟩ : ∃ v, wr.cell? ⟨g, j, none⟩ = some v := ⟨_, ho.cell hlt⟩
    have hz := ho.frozen j
    clear hf
    go_wp2
    go_roundw
    case rel => exact ⟨j + 1, by omega, by go_num, by go_num, fun _ => ⟨g, _, rfl, hg1, hg2, ho.set hlt _⟩, hrg.setCell hg1 hg2 _⟩
    case measure => simp [intOf]; omega
  · obtain rfl : j = n := by omega
    clear hf
    go_wp2
    go_ret
    exact ⟨rfl, hrg⟩
theorem c4_ : Tryz.prog.cellsOf 4 = 1 := by kernel_rfl
theorem addr_plain_ {w : World} {a : Addr} {v : Value} (h : w.cell? (a.add 0) = some v) : ∃ b off, a = ⟨b, off, none⟩ ∧ b < w.heap.size := by
 have h' : w.cell? a = some v := by simpa [Addr.add] using h
 have hs := World.cell?_spot h'
 obtain ⟨b, off, sp⟩ := a
 simp only at hs
 subst hs
 exact ⟨b, off, rfl, World.block_lt_of_cell? w _ h'⟩
theorem addr_add_ (b off i : Nat) : (Addr.mk b off none).add i = ⟨b, off + i, none⟩ := by
 unfold Addr.add
 by_cases h : i = 0
 · subst h; simp
 · simp [h]
theorem open_bools_ {H : Type} {enc : TypeId × Value → H} {w : World} {base : Nat} {spare : Nat → Bool} {held : Bool} {r : Reach} {b0 : Nat} {v : Value} {d : DataW H} {p : List MemPlace}
 (hv : Value.okWide Tryz.prog w r b0 63 v) (h : DataW.Trod enc Tryz.prog w base spare held 63 v d p) :
 ∃ (A : Option Addr) (n c : Nat) (bs : List Bool), v = .slice A n c ∧ Bls w w.heap.size A n bs ∧ n ≤ 2 ^ 63 - 1 := by
 obtain ⟨a0, len0, cap0, rfl⟩ := okWide_slice Tryz.underlying63 hv
 obtain ⟨fuel, hf⟩ := h
 rcases open_slice Tryz.underlying63 hf with ⟨hcs, _⟩ | ⟨a, len, cap, m, n, D, Pl, hcs, _, hl, hm, hmm, _, hi⟩
 · simp [Value.cells] at hcs
   obtain ⟨rfl, rfl, rfl⟩ := hcs
   exact ⟨none, 0, 0, [], rfl, ⟨rfl, fun hn => absurd hn (by omega)⟩, by omega⟩
 · simp [Value.cells] at hcs
   obtain ⟨rfl, rfl, rfl⟩ := hcs
   have hle : len0 ≤ m := by rw [hmm]; split <;> omega
   unfold maxLen at hm
   have key : ∀ i, ∃ q : Bool, i < m → w.cell? (a.add i) = some (.bool q) := by
    intro i
    by_cases him : i < m
    · obtain ⟨cs', hc, ht⟩ := hi i him
      rw [c4_, Nat.mul_one] at hc
      obtain ⟨_, hcl, hat⟩ := World.cells?_some hc
      obtain ⟨q, e, _⟩ := DataW.trod_bool Tryz.underlying4 ht
      subst e
      refine ⟨q, fun _ => ?_⟩
      have := hat 0 (by omega)
      simpa [Addr.add] using this
    · exact ⟨false, fun h => absurd h him⟩
   obtain ⟨g, hg⟩ := Classical.skolem.1 key
   refine ⟨some a, len0, cap0, (List.range len0).map g, rfl, ⟨by simp, fun hn => ?_⟩, by omega⟩
   obtain ⟨b, off, rfl, hb⟩ := addr_plain_ (hg 0 (by omega))
   refine ⟨b, off, rfl, hb, fun i hi => ?_⟩
   have h1 := hg i (by omega)
   rw [addr_add_] at h1
   rw [h1]
   unfold blAt
   rw [gdE, List.getElem?_map, List.getElem?_range hi]; rfl
end Go.Proofs.YtieoiailjjnnoaaGreatDoor
namespace Go.Proofs.YtieoiailjjnnoaaGreatDoor
set_option linter.unusedVariables false
set_option maxRecDepth 100000
set_option maxHeartbeats 16000000
open Go.RowKit
theorem mergeL6 {G : Nat → Option Addr → Nat → Option Addr → Nat → World → Option Addr → Nat → Option Addr → Nat → Option Addr → Nat → Prop} {F : Nat → Option Addr → Nat → Option Addr → Nat → World → Prop} {R : Prop} (main : (∀ g A c B d W x0 x1 x2 x3 x4 x5, F g A c B d W → G g A c B d W x0 x1 x2 x3 x4 x5) → R) (key : ∀ g A c B d W x0 x1 x2 x3 x4 x5, F g A c B d W → G g A c B d W x0 x1 x2 x3 x4 x5) : R := main key
theorem awT_len (ss : List BA) (ws : List (Int × BA)) (p b v t : Int) (bs : List Bool) : (awT ss ws p b v t bs).1.1.length ≤ 64 ∧ (awT ss ws p b v t bs).1.2.length ≤ 80 := by
 unfold awT
 split
 · exact ⟨Nat.zero_le _, Nat.zero_le _⟩
 split
 · rename_i hA
   obtain ⟨hD, hw, hF, n0, hb⟩ := askD_yes hA
   subst hb
   exact ⟨by rw [settleTo_len]; exact Nat.le_of_eq (diskB_len64 (apP_disk hD hF)).1, Nat.zero_le _⟩
 · exact ⟨Nat.zero_le _, Nat.zero_le _⟩
theorem lawAppendTorn (A A2 : Option Addr) (n c n2 c2 : Nat) (ss : List BA) (ws : List (Int × BA)) (p b v t : Int) (KA : Option Addr) (m kc : Nat) (bs : List Bool) (w : World) (a0 a1 : Addr) (hE : Er w a0 a1) (hM : Mx w) (hEt : Et w) (hT : Tab w) (h : Strs w w.heap.size A n ss) (h2 : Wrs w w.heap.size A2 n2 ws)
 (hm : AllS ss) (hm2 : AllW ws) (hn : n ≤ 2 ^ 63 - 1) (hn2 : n2 ≤ 2 ^ 63 - 1) (h3 : Bls w w.heap.size KA m bs) (hm3 : m ≤ 2 ^ 63 - 1) :
 Calls Tryz.prog 7 #[.agg #[.slice A n c, .slice A2 n2 c2], .agg #[ii p, ii b, ii v, ii t], .slice KA m kc] w fun e w' => e = .returned (.bool true) ∧ Nx w w' := by
 by_cases hmm : m ≤ 1048576
 case neg =>
  have hb0 : decide (1048576 < (m : Int)) = true := by simp; omega
  go_enter Tryz.func7, Tryz.ntmps7
  go_wp2
  go_ret
  exact ⟨rfl, ((Nx.refl _).alloc _).alloc _⟩
 have hb0 : decide (1048576 < (m : Int)) = false := by simp; omega
 have hlen := awT_len ss ws p b v t bs
 obtain ⟨⟨⟨R1, R2⟩, cd⟩, HPc⟩ : ∃ y, Hid (awT ss ws p b v t bs = y) := ⟨_, rfl⟩
 rw [HPc.out] at hlen
 obtain ⟨r1, Hr1⟩ : ∃ r, Hid (R1.length = r) := ⟨_, rfl⟩
 obtain ⟨r2, Hr2⟩ : ∃ r, Hid (R2.length = r) := ⟨_, rfl⟩
 have hr1 : r1 ≤ 1048576 := by have := Hr1.out; have := hlen.1; simp only at this; omega
 have hr2 : r2 ≤ 1048576 := by have := Hr2.out; have := hlen.2; simp only at this; omega
 clear hlen
 go_enter Tryz.func7, Tryz.ntmps7
 go_wp2_with fail
 have bL := (Box.new w 68 #[.slice A n c, .slice A2 n2 c2]).alloc (.cells #[ii p, ii b, ii v, ii t] 69)
 have bM := Box.new (w.alloc (.cells #[.slice A n c, .slice A2 n2 c2] 68)) 69 #[ii p, ii b, ii v, ii t]
 have hX := ((Nx.refl w).alloc (.cells #[.slice A n c, .slice A2 n2 c2] 68)).alloc (.cells #[ii p, ii b, ii v, ii t] 69)
 simp only [World.size_alloc] at bM
 have zb := bM.lt
 generalize (w.alloc (.cells #[.slice A n c, .slice A2 n2 c2] 68)).alloc (.cells #[ii p, ii b, ii v, ii t] 69) = W at *
 refine (szDisk_c A A2 n c n2 c2 w.heap.size ss ws _ _ (h.below hX nle) (h2.below hX nle) hX.size hm hm2 hn hn2 (by omega) (by omega)).mono ?_
 rintro e w1 ⟨rfl, hx1⟩
 by_cases hle : costD n n2 ss ws ≤ 1048576
 case neg =>
  rw [← szR_no (by omega)]
  go_wp2
  go_ret
  exact ⟨rfl, hX.trans hx1⟩
 rw [← szR_yes hle]
 have hd0 : 0 ≤ costD n n2 ss ws := by unfold costD; omega
 have hd1 : decide (1048576 - costD n n2 ss ws < 0) = false := by simp; omega
 have hn' : n ≤ 1048576 := by unfold costD at hle; omega
 have hn2' : n2 ≤ 1048576 := by unfold costD at hle; omega
 have zhx1 := hx1.size; replace bL := bL.nx hx1; replace bM := bM.nx hx1; replace hX := hX.trans hx1
 go_wp2_with fail
 refine mergeL6 (F := (fun gq Aq cq Bq dq Wq => Box Wq gq 35 #[.slice Aq r1 cq, .slice Bq r2 dq] ∧ SlS Wq w1.heap.size Aq r1 R1 ∧ SlW Wq w1.heap.size Bq r2 R2 ∧ w1.heap.size ≤ gq ∧ Nx w1 Wq)) (G := ?_) (fun key => ?_) ?_
 rotate_left
 · have kd : Nx w1 w1.drew := (Nx.refl _).drew
   have hXs := kd
   have zkd := kd.size; replace bL := bL.nx kd; replace bM := bM.nx kd; replace hX := hX.trans kd
   clear kd zkd
   refine wp_planA (.t 0 (.t 2 (.t 4 (.b 1 (.b 3 (.b 5 (.b 6 (.t 7 (.t 8 (.t 9 (.c 10 (.c 11 (.t 12 .e)))))) 10 (.c 6 (.t 7 (.t 8 (.t 9 (.c 11 (.t 12 .e))))))) 10 (.c 5 (.c 6 (.t 7 (.t 8 (.t 9 (.c 11 (.t 12 .e)))))))) 10 (.c 3 (.c 5 (.c 6 (.t 7 (.t 8 (.t 9 (.c 11 (.t 12 .e))))))))) 10 (.c 1 (.c 3 (.c 5 (.c 6 (.t 7 (.t 8 (.t 9 (.c 11 (.t 12 .e))))))))))))) (fun w' => (w'.cell? ⟨w.heap.size, 0, none⟩ = some (.slice A n c) ∧ w'.cell? ⟨w.heap.size, 1, none⟩ = some (.slice A2 n2 c2)) ∧ (w'.cell? ⟨(w.heap.size + 1), 0, none⟩ = some (ii p) ∧ w'.cell? ⟨(w.heap.size + 1), 1, none⟩ = some (ii b) ∧ w'.cell? ⟨(w.heap.size + 1), 2, none⟩ = some (ii v) ∧ w'.cell? ⟨(w.heap.size + 1), 3, none⟩ = some (ii t))) (by exact ⟨⟨bL.c0, bL.c1⟩, bM.d4⟩) ?_
   simp only [psOf, List.getD_cons_zero, List.getD_cons_succ]
   generalize w1.drew = wv at *
   repeat' (first
    | (have hDn := hDone; have rc0 := bz.cell 0; have rf0 := bz.frozen 0; have rc1 := bz.cell 1; have rf1 := bz.frozen 1; have rlt := bz.lt; (with_reducible refine HP.call ?_); refine cSt fun K hK => ?_; go_simp; refine hK.out _ _ (by exact ⟨⟨((bL.far (p := ⟨gz, 0, none⟩) hnbL (.slice A9 r1 c9)).far (p := ⟨gz, 1, none⟩) hnbL (.slice B9 r2 d9)).c0, ((bL.far (p := ⟨gz, 0, none⟩) hnbL (.slice A9 r1 c9)).far (p := ⟨gz, 1, none⟩) hnbL (.slice B9 r2 d9)).c1⟩, ((bM.far (p := ⟨gz, 0, none⟩) hnbM (.slice A9 r1 c9)).far (p := ⟨gz, 1, none⟩) hnbM (.slice B9 r2 d9)).d4⟩) ?_; clear hK K; (try simp only [Act.put, qqA, qqB, qqC]); clear rc0 rf0 rc1 rf1; repeat (first | (refine HP.tk ?_; (try simp only [Act.put, qqA, qqB, qqC])) | (refine HP.sk ?_; (try simp only [Act.put, qqA, qqB, qqC]))); refine HP.done ?_; have rq := (bz.set0 (.slice A9 r1 c9)).set1 (.slice B9 r2 d9); have hnf := (hXs.setCell (p := ⟨gz, 0, none⟩) hgz (.slice A9 r1 c9)).setCell (p := ⟨gz, 1, none⟩) hgz (.slice B9 r2 d9); have hSf := hS.twoW bz (.slice A9 r1 c9) (.slice B9 r2 d9); have hWf := hW.twoW bz (.slice A9 r1 c9) (.slice B9 r2 d9); generalize (wv.setCell ⟨gz, 0, none⟩ (.slice A9 r1 c9)).setCell ⟨gz, 1, none⟩ (.slice B9 r2 d9) = Wf at *; exact key gz A9 c9 B9 d9 Wf Ai ci Bi di Ki ki ⟨rq, hSf, hWf, hgz, hnf⟩)
    | (with_reducible refine HP.both ?_ ?_)
    | (with_reducible refine HP.three ?_ ?_ ?_)
    | (with_reducible refine HP.call ?_)
    | (refine HP.tk ?_; (try simp only [Act.put, qqA, qqB, qqC]))
    | (refine HP.sk ?_; (try simp only [Act.put, qqA, qqB, qqC]))
    | (refine cSt fun K hK => ?_; go_simp; first
      | ((with_reducible refine callAt 34 ?_); refine (toDisk_c A A2 n c n2 c2 w.heap.size ss ws _ (h.below hX nle) (h2.below hX nle) hX.size hn' hn2').mono ?_; rintro e wv ⟨Ai, ni, ci, Bi, mi, di, rfl, hiS, hiW, hk⟩; obtain rfl : n = ni := h.1.symm.trans hiS.1; obtain rfl : n2 = mi := h2.1.symm.trans hiW.1; have zhk := hk.size; replace bL := bL.nx hk; replace bM := bM.nx hk; replace hX := hX.trans hk; replace hXs := hXs.trans hk; (try replace bz := bz.nx hk); (try replace hiB := hiB.nx hk); (try replace hS := hS.nx hk); (try replace hW := hW.nx hk); (try replace hh9 := ntr hh9 hk.size); clear hk zhk; go_wp2_with fail; refine hK.out _ _ (by exact ⟨⟨bL.c0, bL.c1⟩, bM.d4⟩) ?_; clear hK K; (try simp only [Act.put, qqA, qqB, qqC]))
      | ((with_reducible refine callAt 35 ?_); refine (toFrame_c p b v t _).mono ?_; rintro e wv ⟨rfl, hk⟩; have zhk := hk.size; replace bL := bL.nx hk; replace bM := bM.nx hk; replace hX := hX.trans hk; replace hXs := hXs.trans hk; (try replace bz := bz.nx hk); (try replace hiS := hiS.nx hk); (try replace hiW := hiW.nx hk); (try replace hiB := hiB.nx hk); (try replace hS := hS.nx hk); (try replace hW := hW.nx hk); (try replace hh9 := ntr hh9 hk.size); clear hk zhk; go_wp2_with fail; refine hK.out _ _ (by exact ⟨⟨bL.c0, bL.c1⟩, bM.d4⟩) ?_; clear hK K; (try simp only [Act.put, qqA, qqB, qqC]))
      | ((with_reducible refine callAt 39 ?_); refine (toBoolS_c KA m kc w.heap.size bs _ (h3.below hX nle) hX.size hmm).mono ?_; rintro e wv ⟨Ki, mi', ki, rfl, hiB, hk⟩; obtain rfl : m = mi' := h3.1.symm.trans hiB.1; have zhk := hk.size; replace bL := bL.nx hk; replace bM := bM.nx hk; replace hX := hX.trans hk; replace hXs := hXs.trans hk; (try replace bz := bz.nx hk); (try replace hiS := hiS.nx hk); (try replace hiW := hiW.nx hk); (try replace hS := hS.nx hk); (try replace hW := hW.nx hk); (try replace hh9 := ntr hh9 hk.size); clear hk zhk; go_wp2_with fail; refine hK.out _ _ (by exact ⟨⟨bL.c0, bL.c1⟩, bM.d4⟩) ?_; clear hK K; (try simp only [Act.put, qqA, qqB, qqC]))
      | ((with_reducible refine callAt 31 ?_); refine (specAppendTorn_r Ai Bi n ci n2 di _ ss ws p b v t Ki m ki bs _ R1 R2 cd HPc.out hiS.strs hiW.wrs nle hn' hn2' hiB.bls hmm).mono ?_; rintro e wv ⟨A9, n9, c9, B9, m9, d9, rfl, hS, hW, hk⟩; obtain rfl : r1 = n9 := Hr1.out.symm.trans hS.1; obtain rfl : r2 = m9 := Hr2.out.symm.trans hW.1; replace hS := hS.low (lo' := w1.heap.size) (by have := hXs.size; omega); replace hW := hW.low (lo' := w1.heap.size) (by have := hXs.size; omega); have hDone := True.intro; have zhk := hk.size; replace bL := bL.nx hk; replace bM := bM.nx hk; replace hX := hX.trans hk; replace hXs := hXs.trans hk; (try replace bz := bz.nx hk); (try replace hiS := hiS.nx hk); (try replace hiW := hiW.nx hk); (try replace hiB := hiB.nx hk); (try replace hh9 := ntr hh9 hk.size); clear hk zhk; go_wp2_with fail; refine hK.out _ _ (by exact ⟨⟨bL.c0, bL.c1⟩, bM.d4⟩) ?_; clear hK K; (try simp only [Act.put, qqA, qqB, qqC]))
      | (have bz := Box.new wv 35 #[nsl, nsl]; have hz := (Nx.refl wv).alloc (.cells #[nsl, nsl] 35); have hnbL := Nat.ne_of_lt bL.lt; have hnbM := Nat.ne_of_lt bM.lt; have hgz := hXs.size; (try have hgh := hh9); have zhz := hz.size; replace bL := bL.nx hz; replace bM := bM.nx hz; replace hX := hX.trans hz; replace hXs := hXs.trans hz; (try replace bz := bz.nx hz); (try replace hiS := hiS.nx hz); (try replace hiW := hiW.nx hz); (try replace hiB := hiB.nx hz); (try replace hS := hS.nx hz); (try replace hW := hW.nx hz); (try replace hh9 := ntr hh9 hz.size); clear zhz; refine hK.out _ _ (by exact ⟨⟨bL.c0, bL.c1⟩, bM.d4⟩) ?_; clear hK K; (try simp only [Act.put, qqA, qqB, qqC]); clear hz; change HP _ _ _ _ _ _ (wv.alloc (.cells #[nsl, nsl] 35)); generalize wv.heap.size = gz at *; generalize wv.alloc (.cells #[nsl, nsl] 35) = wv at *)))
 intro gW A5 c5 B5 d5 W5 Ai5 ci5 Bi5 di5 Ki5 ki5 ⟨bW, hS5, hW5, hgW, hxr5⟩
 have zb5 := bW.lt
 have zhxr5 := hxr5.size; replace bL := bL.nx hxr5; replace bM := bM.nx hxr5; replace hX := hX.trans hxr5
 replace hS5 := hS5.sr
 replace hW5 := hW5.sr
 clear hxr5
 clear hd1
 have lc0 := bL.c0
 have lc1 := bL.c1
 go_wp2_with fail
 refine (toDisk_c A A2 n c n2 c2 w.heap.size ss ws _ (h.below hX nle) (h2.below hX nle) hX.size hn' hn2').mono ?_
 rintro e w4 ⟨A6, n6, c6, B6, m6, d6, rfl, hS6, hW6, hx4⟩
 obtain rfl : n = n6 := h.1.symm.trans hS6.1
 obtain rfl : n2 = m6 := h2.1.symm.trans hW6.1
 replace hS6 := hS6.sr
 replace hW6 := hW6.sr
 have zhx4 := hx4.size; replace bL := bL.nx hx4; replace bM := bM.nx hx4; replace hS5 := hS5.nx hx4; replace hW5 := hW5.nx hx4; replace bW := bW.nx hx4; replace hX := hX.trans hx4
 clear lc0 lc1
 go_wp2_with fail
 have bX := Box.new w4 35 #[.slice A6 n c6, .slice B6 n2 d6]
 have hxa := (Nx.refl w4).alloc (.cells #[.slice A6 n c6, .slice B6 n2 d6] 35)
 have zbX : w4.heap.size < (w4.alloc (.cells #[.slice A6 n c6, .slice B6 n2 d6] 35)).heap.size := by simp
 have zhxa := hxa.size; replace bL := bL.nx hxa; replace bM := bM.nx hxa; replace hS5 := hS5.nx hxa; replace hW5 := hW5.nx hxa; replace bW := bW.nx hxa; replace hS6 := hS6.nx hxa; replace hW6 := hW6.nx hxa; replace hX := hX.trans hxa
 clear hxa zhxa
 generalize w4.alloc (.cells #[.slice A6 n c6, .slice B6 n2 d6] 35) = W4 at *
 have zW4 : W4.heap.size ≤ W4.heap.size := Nat.le_refl _
 refine (toBoolS_c KA m kc w.heap.size bs _ (h3.below hX nle) hX.size hmm).mono ?_
 rintro e w4b ⟨K6, m6k, k6, rfl, hB6, hx4b⟩
 obtain rfl : m = m6k := h3.1.symm.trans hB6.1
 have zhx4b := hx4b.size; replace bL := bL.nx hx4b; replace bM := bM.nx hx4b; replace hS5 := hS5.nx hx4b; replace hW5 := hW5.nx hx4b; replace bW := bW.nx hx4b; replace hS6 := hS6.nx hx4b; replace hW6 := hW6.nx hx4b; replace bX := bX.nx hx4b; replace hX := hX.trans hx4b
 go_wp2_with fail
 refine mergeL0 (F := (fun gq Aq cq Bq dq Wq => ∃ lo hi, Box Wq gq 35 #[.slice Aq r1 cq, .slice Bq r2 dq] ∧ SrS Wq lo hi Aq r1 R1 ∧ SrW Wq lo hi Bq r2 R2 ∧ w4b.heap.size ≤ lo ∧ lo ≤ hi ∧ hi ≤ Wq.heap.size ∧ (gq < lo ∨ hi ≤ gq) ∧ w4b.heap.size ≤ gq ∧ Nx w4b Wq)) (G := ?_) (fun key => ?_) ?_
 rotate_left
 · have kd : Nx w4b w4b.drew := (Nx.refl _).drew
   have hXs := kd
   have zkd := kd.size; replace bL := bL.nx kd; replace bM := bM.nx kd; replace hS5 := hS5.nx kd; replace hW5 := hW5.nx kd; replace bW := bW.nx kd; replace hS6 := hS6.nx kd; replace hW6 := hW6.nx kd; replace bX := bX.nx kd; replace hB6 := hB6.nx kd; replace hX := hX.trans kd
   clear kd zkd
   refine wp_planA (.t 0 (.t 1 (.t 3 (.b 2 (.b 4 (.t 5 (.t 6 (.t 7 (.c 8 (.c 9 (.t 10 .e)))))) 8 (.c 4 (.t 5 (.t 6 (.t 7 (.c 9 (.t 10 .e))))))) 8 (.c 2 (.c 4 (.t 5 (.t 6 (.t 7 (.c 9 (.t 10 .e))))))))))) (fun w' => (w'.cell? ⟨w4.heap.size, 0, none⟩ = some (.slice A6 n c6) ∧ w'.cell? ⟨w4.heap.size, 1, none⟩ = some (.slice B6 n2 d6)) ∧ (w'.cell? ⟨(w.heap.size + 1), 0, none⟩ = some (ii p) ∧ w'.cell? ⟨(w.heap.size + 1), 1, none⟩ = some (ii b) ∧ w'.cell? ⟨(w.heap.size + 1), 2, none⟩ = some (ii v) ∧ w'.cell? ⟨(w.heap.size + 1), 3, none⟩ = some (ii t))) (by exact ⟨⟨bX.c0, bX.c1⟩, bM.d4⟩) ?_
   simp only [psOf, List.getD_cons_zero, List.getD_cons_succ]
   generalize w4b.drew = wv at *
   repeat' (first
    | (have hDn := hDone; have rc0 := bz.cell 0; have rf0 := bz.frozen 0; have rc1 := bz.cell 1; have rf1 := bz.frozen 1; have rlt := bz.lt; (with_reducible refine HP.call ?_); refine cSt fun K hK => ?_; go_simp; refine hK.out _ _ (by exact ⟨⟨((bX.far (p := ⟨gz, 0, none⟩) hnbX (.slice A9 r1 c9)).far (p := ⟨gz, 1, none⟩) hnbX (.slice B9 r2 d9)).c0, ((bX.far (p := ⟨gz, 0, none⟩) hnbX (.slice A9 r1 c9)).far (p := ⟨gz, 1, none⟩) hnbX (.slice B9 r2 d9)).c1⟩, ((bM.far (p := ⟨gz, 0, none⟩) hnbM (.slice A9 r1 c9)).far (p := ⟨gz, 1, none⟩) hnbM (.slice B9 r2 d9)).d4⟩) ?_; clear hK K; (try simp only [Act.put, qqA, qqB, qqC]); clear rc0 rf0 rc1 rf1; repeat (first | (refine HP.tk ?_; (try simp only [Act.put, qqA, qqB, qqC])) | (refine HP.sk ?_; (try simp only [Act.put, qqA, qqB, qqC]))); refine HP.done ?_; have rq := (bz.set0 (.slice A9 r1 c9)).set1 (.slice B9 r2 d9); have hnf := (hXs.setCell (p := ⟨gz, 0, none⟩) hgz (.slice A9 r1 c9)).setCell (p := ⟨gz, 1, none⟩) hgz (.slice B9 r2 d9); have hO : gz < lo9 ∨ hi9 ≤ gz := (by first | exact .inl hgl | exact .inr hgh); have hSf := hS.rg (rg_put2 wv gz (.slice A9 r1 c9) (.slice B9 r2 d9)) (by omega); have hWf := hW.rg (rg_put2 wv gz (.slice A9 r1 c9) (.slice B9 r2 d9)) (by omega); have hsz : wv.heap.size ≤ ((wv.setCell ⟨gz, 0, none⟩ (.slice A9 r1 c9)).setCell ⟨gz, 1, none⟩ (.slice B9 r2 d9)).heap.size := (by simp [World.setCell]); generalize (wv.setCell ⟨gz, 0, none⟩ (.slice A9 r1 c9)).setCell ⟨gz, 1, none⟩ (.slice B9 r2 d9) = Wf at *; exact key gz A9 c9 B9 d9 Wf  ⟨lo9, hi9, rq, hSf, hWf, hl9, hlh, ntr hh9 hsz, hO, hgz, hnf⟩)
    | (with_reducible refine HP.both ?_ ?_)
    | (with_reducible refine HP.three ?_ ?_ ?_)
    | (with_reducible refine HP.call ?_)
    | (refine HP.tk ?_; (try simp only [Act.put, qqA, qqB, qqC]))
    | (refine HP.sk ?_; (try simp only [Act.put, qqA, qqB, qqC]))
    | (refine cSt fun K hK => ?_; go_simp; first
      | ((with_reducible refine callAt 35 ?_); refine (toFrame_c p b v t _).mono ?_; rintro e wv ⟨rfl, hk⟩; have zhk := hk.size; replace bL := bL.nx hk; replace bM := bM.nx hk; replace hS5 := hS5.nx hk; replace hW5 := hW5.nx hk; replace bW := bW.nx hk; replace hS6 := hS6.nx hk; replace hW6 := hW6.nx hk; replace bX := bX.nx hk; replace hB6 := hB6.nx hk; replace hX := hX.trans hk; replace hXs := hXs.trans hk; (try replace bz := bz.nx hk); (try replace hiS := hiS.nx hk); (try replace hiW := hiW.nx hk); (try replace hiB := hiB.nx hk); (try replace hS := hS.nx hk); (try replace hW := hW.nx hk); (try replace hh9 := ntr hh9 hk.size); clear hk zhk; go_wp2_with fail; refine hK.out _ _ (by exact ⟨⟨bX.c0, bX.c1⟩, bM.d4⟩) ?_; clear hK K; (try simp only [Act.put, qqA, qqB, qqC]))
      | ((with_reducible refine callAt 29 ?_); obtain ⟨lo9, hlo9⟩ : ∃ q, wv.heap.size = q := ⟨_, rfl⟩; have hl9 : w4b.heap.size ≤ lo9 := (by have := hXs.size; omega); (try have hgl : gz < lo9 := (by have := bz.lt; omega)); refine (implAppendTorn_r A6 B6 n c6 n2 d6 _ ss ws p b v t K6 m k6 bs _ a0 a1 R1 R2 cd HPc.out hS6.sl.strs hW6.sl.wrs nle hn' hn2' hB6.bls hmm (hE.nx hX) (hM.nx hX) (hEt.nx hX) (hT.nx hX)).mono ?_; rintro e wv ⟨A9, n9, c9, B9, m9, d9, rfl, hS, hW, hk⟩; obtain rfl : r1 = n9 := Hr1.out.symm.trans hS.1; obtain rfl : r2 = m9 := Hr2.out.symm.trans hW.1; rw [hlo9] at hS hW; replace hS := hS.sr; replace hW := hW.sr; have hlh : lo9 ≤ wv.heap.size := (by have := hk.size; omega); obtain ⟨hi9, hhi9⟩ : ∃ q, wv.heap.size = q := ⟨_, rfl⟩; rw [hhi9] at hS hW hlh; have hh9 : hi9 ≤ wv.heap.size := (by omega); clear hlo9 hhi9; have hDone := True.intro; have zhk := hk.size; replace bL := bL.nx hk; replace bM := bM.nx hk; replace hS5 := hS5.nx hk; replace hW5 := hW5.nx hk; replace bW := bW.nx hk; replace hS6 := hS6.nx hk; replace hW6 := hW6.nx hk; replace bX := bX.nx hk; replace hB6 := hB6.nx hk; replace hX := hX.trans hk; replace hXs := hXs.trans hk; (try replace bz := bz.nx hk); (try replace hiS := hiS.nx hk); (try replace hiW := hiW.nx hk); (try replace hiB := hiB.nx hk); clear hk zhk; go_wp2_with fail; refine hK.out _ _ (by exact ⟨⟨bX.c0, bX.c1⟩, bM.d4⟩) ?_; clear hK K; (try simp only [Act.put, qqA, qqB, qqC]))
      | (have bz := Box.new wv 35 #[nsl, nsl]; have hz := (Nx.refl wv).alloc (.cells #[nsl, nsl] 35); have hnbX := Nat.ne_of_lt bX.lt; have hnbM := Nat.ne_of_lt bM.lt; have hgz := hXs.size; (try have hgh := hh9); have zhz := hz.size; replace bL := bL.nx hz; replace bM := bM.nx hz; replace hS5 := hS5.nx hz; replace hW5 := hW5.nx hz; replace bW := bW.nx hz; replace hS6 := hS6.nx hz; replace hW6 := hW6.nx hz; replace bX := bX.nx hz; replace hB6 := hB6.nx hz; replace hX := hX.trans hz; replace hXs := hXs.trans hz; (try replace bz := bz.nx hz); (try replace hiS := hiS.nx hz); (try replace hiW := hiW.nx hz); (try replace hiB := hiB.nx hz); (try replace hS := hS.nx hz); (try replace hW := hW.nx hz); (try replace hh9 := ntr hh9 hz.size); clear zhz; refine hK.out _ _ (by exact ⟨⟨bX.c0, bX.c1⟩, bM.d4⟩) ?_; clear hK K; (try simp only [Act.put, qqA, qqB, qqC]); clear hz; change HP _ _ _ _ _ _ (wv.alloc (.cells #[nsl, nsl] 35)); generalize wv.heap.size = gz at *; generalize wv.alloc (.cells #[nsl, nsl] 35) = wv at *)))
 intro gG A8 c8 B8 d8 W8  ⟨lo8, hi8, bG, hS8, hW8, hlo8, hlh8, hhi8, hor8, hgG, hxr8⟩
 have zb8 := bG.lt
 have zhxr8 := hxr8.size; replace bL := bL.nx hxr8; replace bM := bM.nx hxr8; replace hS5 := hS5.nx hxr8; replace hW5 := hW5.nx hxr8; replace bW := bW.nx hxr8; replace hS6 := hS6.nx hxr8; replace hW6 := hW6.nx hxr8; replace bX := bX.nx hxr8; replace hB6 := hB6.nx hxr8; replace hX := hX.trans hxr8
 clear hxr8
 have lc0 := bW.c0
 have lc1 := bW.c1
 have nc0 := bG.c0
 have nc1 := bG.c1
 go_wp2_with fail
 refine (eqDisk_c A8 B8 A5 B5 r1 c8 c5 r2 d8 d5 _ R1 R2 _ hS8.sl.strs hS5.sl.strs hW8.sl.wrs hW5.sl.wrs nle hr1 hr2).mono ?_
 rintro e w7 ⟨rfl, hx7⟩
 have zhx7 := hx7.size; replace bL := bL.nx hx7; replace bM := bM.nx hx7; replace hS5 := hS5.nx hx7; replace hW5 := hW5.nx hx7; replace bW := bW.nx hx7; replace hS6 := hS6.nx hx7; replace hW6 := hW6.nx hx7; replace bX := bX.nx hx7; replace hB6 := hB6.nx hx7; replace hS8 := hS8.nx hx7; replace hW8 := hW8.nx hx7; replace bG := bG.nx hx7; replace hX := hX.trans hx7
 clear lc0 lc1 nc0 nc1
 have hdr : Nx w7 w7.drew := (Nx.refl _).drew
 have zhdr := hdr.size; replace bL := bL.nx hdr; replace bM := bM.nx hdr; replace hS5 := hS5.nx hdr; replace hW5 := hW5.nx hdr; replace bW := bW.nx hdr; replace hS6 := hS6.nx hdr; replace hW6 := hW6.nx hdr; replace bX := bX.nx hdr; replace hB6 := hB6.nx hdr; replace hS8 := hS8.nx hdr; replace hW8 := hW8.nx hdr; replace bG := bG.nx hdr; replace hX := hX.trans hdr
 clear hdr
 go_wp2_with fail
 refine wp_lexA [ff, ff, true, true, ff] (fun w' => (w'.cell? ⟨w4.heap.size, 0, none⟩ = some (.slice A6 n c6) ∧ w'.cell? ⟨w4.heap.size, 1, none⟩ = some (.slice B6 n2 d6)) ∧ (w'.cell? ⟨w.heap.size, 0, none⟩ = some (.slice A n c) ∧ w'.cell? ⟨w.heap.size, 1, none⟩ = some (.slice A2 n2 c2))) (by exact ⟨⟨bX.c0, bX.c1⟩, ⟨bL.c0, bL.c1⟩⟩) ?_
 repeat ((first | refine HL.tk ?_ | refine HL.sk ?_); try simp only [Act.put, qqA, qqB, qqC])
 refine hLc fun K hK => ?_
 go_simp
 refine (toDisk_c A A2 n c n2 c2 w.heap.size ss ws _ (h.below hX nle) (h2.below hX nle) hX.size hn' hn2').mono ?_; rintro e y1 ⟨Ay, ny, cy, By, my, dy, rfl, hSy, hWy, hy1⟩; obtain rfl : n = ny := h.1.symm.trans hSy.1; obtain rfl : n2 = my := h2.1.symm.trans hWy.1; have zhy1 := hy1.size; replace bL := bL.nx hy1; replace bM := bM.nx hy1; replace hS5 := hS5.nx hy1; replace hW5 := hW5.nx hy1; replace bW := bW.nx hy1; replace hS6 := hS6.nx hy1; replace hW6 := hW6.nx hy1; replace bX := bX.nx hy1; replace hB6 := hB6.nx hy1; replace hS8 := hS8.nx hy1; replace hW8 := hW8.nx hy1; replace bG := bG.nx hy1; replace hX := hX.trans hy1
 go_wp2_with fail
 refine hK.out _ _ (by exact ⟨⟨bX.c0, bX.c1⟩, ⟨bL.c0, bL.c1⟩⟩) ?_
 clear hK K
 try simp only [Act.put, qqA, qqB, qqC]
 refine hLc fun K hK => ?_
 go_simp
 refine (eqDisk_c A6 B6 Ay By n c6 cy n2 d6 dy _ ss ws _ hS6.sl.strs hSy.strs hW6.sl.wrs hWy.wrs nle hn' hn2').mono ?_; rintro e x1 ⟨rfl, hx1q⟩; have zhx1q := hx1q.size; replace bL := bL.nx hx1q; replace bM := bM.nx hx1q; replace hS5 := hS5.nx hx1q; replace hW5 := hW5.nx hx1q; replace bW := bW.nx hx1q; replace hS6 := hS6.nx hx1q; replace hW6 := hW6.nx hx1q; replace bX := bX.nx hx1q; replace hB6 := hB6.nx hx1q; replace hS8 := hS8.nx hx1q; replace hW8 := hW8.nx hx1q; replace bG := bG.nx hx1q; replace hX := hX.trans hx1q
 go_wp2_with fail
 refine hK.out _ _ (by exact ⟨⟨bX.c0, bX.c1⟩, ⟨bL.c0, bL.c1⟩⟩) ?_
 clear hK K
 try simp only [Act.put, qqA, qqB, qqC]
 repeat ((first | refine HL.tk ?_ | refine HL.sk ?_); try simp only [Act.put, qqA, qqB, qqC])
 refine HL.done ?_
 clear hSy hWy
 go_wp2_with fail
 refine (toBoolS_c KA m kc w.heap.size bs _ (h3.below hX nle) hX.size hmm).mono ?_
 rintro e x1b ⟨K7, m7k, k7, rfl, hB7, hx1b⟩
 obtain rfl : m = m7k := h3.1.symm.trans hB7.1
 have zhx1b := hx1b.size; replace bL := bL.nx hx1b; replace bM := bM.nx hx1b; replace hS5 := hS5.nx hx1b; replace hW5 := hW5.nx hx1b; replace bW := bW.nx hx1b; replace hS6 := hS6.nx hx1b; replace hW6 := hW6.nx hx1b; replace bX := bX.nx hx1b; replace hB6 := hB6.nx hx1b; replace hS8 := hS8.nx hx1b; replace hW8 := hW8.nx hx1b; replace bG := bG.nx hx1b; replace hX := hX.trans hx1b
 go_wp2_with fail
 refine (eqBoolS_c K6 K7 m k6 k7 _ bs _ hB6.bls hB7.bls nle hmm).mono ?_
 rintro e x1c ⟨rfl, hx1c⟩
 have zhx1c := hx1c.size; replace bL := bL.nx hx1c; replace bM := bM.nx hx1c; replace hS5 := hS5.nx hx1c; replace hW5 := hW5.nx hx1c; replace bW := bW.nx hx1c; replace hS6 := hS6.nx hx1c; replace hW6 := hW6.nx hx1c; replace bX := bX.nx hx1c; replace hB6 := hB6.nx hx1c; replace hS8 := hS8.nx hx1c; replace hW8 := hW8.nx hx1c; replace bG := bG.nx hx1c; replace hX := hX.trans hx1c
 clear hB7
 have lc0 := bX.c0
 have lc1 := bX.c1
 go_wp2_with fail
 refine (markDisk_c A6 B6 n c6 n2 d6 1 _ _ ss ws _ hS6 hW6 (by omega) hn' hn2' (by omega)).mono ?_
 rintro e wc ⟨rfl, hmS, hmW, hr1m⟩
 have zhr1m := hr1m.size; replace bL := bL.rg hr1m (by omega); replace bM := bM.rg hr1m (by omega); replace hS5 := hS5.rg hr1m (by omega); replace hW5 := hW5.rg hr1m (by omega); replace bW := bW.rg hr1m (by omega); replace bX := bX.rg hr1m (by omega); replace hB6 := hB6.rg hr1m (by omega); replace hS8 := hS8.rg hr1m (by omega); replace hW8 := hW8.rg hr1m (by omega); replace bG := bG.rg hr1m (by omega); replace hX := Rg.nx_of hX hr1m (by omega)
 clear hS6 hW6 hmS hmW
 clear lc0 lc1
 obtain ⟨k1, Hk1⟩ : ∃ q, Hid (1 + n + n2 * 2 = q) := ⟨_, rfl⟩
 have hk1 : k1 ≤ 3145729 := by have := Hk1.out; omega
 rw [Hk1.out]
 go_wp2_with fail
 refine (markBoolS_c K6 m k6 k1 _ _ bs _ hB6 (by omega) hmm (by omega)).mono ?_
 rintro e wd ⟨rfl, hr2m⟩
 have zhr2m := hr2m.size; replace bL := bL.rg hr2m (by omega); replace bM := bM.rg hr2m (by omega); replace hS5 := hS5.rg hr2m (by omega); replace hW5 := hW5.rg hr2m (by omega); replace bW := bW.rg hr2m (by omega); replace bX := bX.rg hr2m (by omega); replace hS8 := hS8.rg hr2m (by omega); replace hW8 := hW8.rg hr2m (by omega); replace bG := bG.rg hr2m (by omega); replace hX := Rg.nx_of hX hr2m (by omega)
 clear hB6
 obtain ⟨k2, Hk2⟩ : ∃ q, Hid (k1 + m = q) := ⟨_, rfl⟩
 rw [Hk2.out]
 have hd4 : decide ((k2 : Int) < 0) = false := by simp
 have lc0 := bW.c0
 have lc1 := bW.c1
 have nc0 := bG.c0
 have nc1 := bG.c1
 go_wp2_with fail
 refine (eqDisk_c A8 B8 A5 B5 r1 c8 c5 r2 d8 d5 _ R1 R2 _ hS8.sl.strs hS5.sl.strs hW8.sl.wrs hW5.sl.wrs nle hr1 hr2).mono ?_
 rintro e we ⟨rfl, hxe⟩
 have zhxe := hxe.size; replace bL := bL.nx hxe; replace bM := bM.nx hxe; replace hS5 := hS5.nx hxe; replace hW5 := hW5.nx hxe; replace bW := bW.nx hxe; replace bX := bX.nx hxe; replace hS8 := hS8.nx hxe; replace hW8 := hW8.nx hxe; replace bG := bG.nx hxe; replace hX := hX.trans hxe
 clear lc0 lc1 nc0 nc1
 have nc0 := bG.c0
 have nc1 := bG.c1
 go_wp2_with fail
 refine (markDisk_c A8 B8 r1 c8 r2 d8 1 _ _ R1 R2 _ hS8 hW8 (by omega) hr1 hr2 (by omega)).mono ?_
 rintro e wf ⟨rfl, hS8b, hW8b, hr3m⟩
 have zhr3m := hr3m.size; replace bL := bL.rg hr3m (by omega); replace bM := bM.rg hr3m (by omega); replace hS5 := hS5.rg hr3m (by omega); replace hW5 := hW5.rg hr3m (by omega); replace bW := bW.rg hr3m (by omega); replace bX := bX.rg hr3m (by omega); replace bG := bG.rg hr3m (by omega); replace hX := Rg.nx_of hX hr3m (by omega)
 clear hS8 hW8
 clear nc0 nc1
 obtain ⟨k3, Hk3⟩ : ∃ q, Hid (1 + r1 + r2 * 2 = q) := ⟨_, rfl⟩
 have hd3 : decide ((k3 : Int) < 0) = false := by simp
 rw [Hk3.out]
 have nc0 := bG.c0
 have nc1 := bG.c1
 go_wp2_with fail
 refine (heldDisk_c A8 B8 r1 c8 r2 d8 1 _ _ hS8b.sl.strs hW8b.sl.wrs nle hr1 hr2 (by omega)).mono ?_
 rintro e wh ⟨rfl, hxh⟩
 rw [Hk3.out]
 have zhxh := hxh.size; replace bL := bL.nx hxh; replace bM := bM.nx hxh; replace hS5 := hS5.nx hxh; replace hW5 := hW5.nx hxh; replace bW := bW.nx hxh; replace bX := bX.nx hxh; replace bG := bG.nx hxh; replace hS8b := hS8b.nx hxh; replace hW8b := hW8b.nx hxh; replace hX := hX.trans hxh
 clear nc0 nc1
 go_wp2_with fail
 refine mergeL6 (F := (fun gq Aq cq Bq dq Wq => Box Wq gq 35 #[.slice Aq r1 cq, .slice Bq r2 dq] ∧ SlS Wq wh.heap.size Aq r1 R1 ∧ SlW Wq wh.heap.size Bq r2 R2 ∧ wh.heap.size ≤ gq ∧ Nx wh Wq)) (G := ?_) (fun key => ?_) ?_
 rotate_left
 · have kd : Nx wh wh.drew := (Nx.refl _).drew
   have hXs := kd
   have zkd := kd.size; replace bL := bL.nx kd; replace bM := bM.nx kd; replace hS5 := hS5.nx kd; replace hW5 := hW5.nx kd; replace bW := bW.nx kd; replace bX := bX.nx kd; replace bG := bG.nx kd; replace hS8b := hS8b.nx kd; replace hW8b := hW8b.nx kd; replace hX := hX.trans kd
   clear kd zkd
   refine wp_planA (.t 0 (.t 2 (.t 4 (.b 1 (.b 3 (.b 5 (.b 6 (.t 7 (.t 8 (.t 9 (.c 10 (.c 11 (.t 12 .e)))))) 10 (.c 6 (.t 7 (.t 8 (.t 9 (.c 11 (.t 12 .e))))))) 10 (.c 5 (.c 6 (.t 7 (.t 8 (.t 9 (.c 11 (.t 12 .e)))))))) 10 (.c 3 (.c 5 (.c 6 (.t 7 (.t 8 (.t 9 (.c 11 (.t 12 .e))))))))) 10 (.c 1 (.c 3 (.c 5 (.c 6 (.t 7 (.t 8 (.t 9 (.c 11 (.t 12 .e))))))))))))) (fun w' => (w'.cell? ⟨w.heap.size, 0, none⟩ = some (.slice A n c) ∧ w'.cell? ⟨w.heap.size, 1, none⟩ = some (.slice A2 n2 c2)) ∧ (w'.cell? ⟨(w.heap.size + 1), 0, none⟩ = some (ii p) ∧ w'.cell? ⟨(w.heap.size + 1), 1, none⟩ = some (ii b) ∧ w'.cell? ⟨(w.heap.size + 1), 2, none⟩ = some (ii v) ∧ w'.cell? ⟨(w.heap.size + 1), 3, none⟩ = some (ii t))) (by exact ⟨⟨bL.c0, bL.c1⟩, bM.d4⟩) ?_
   simp only [psOf, List.getD_cons_zero, List.getD_cons_succ]
   generalize wh.drew = wv at *
   repeat' (first
    | (have hDn := hDone; have rc0 := bz.cell 0; have rf0 := bz.frozen 0; have rc1 := bz.cell 1; have rf1 := bz.frozen 1; have rlt := bz.lt; (with_reducible refine HP.call ?_); refine cSt fun K hK => ?_; go_simp; refine hK.out _ _ (by exact ⟨⟨((bL.far (p := ⟨gz, 0, none⟩) hnbL (.slice A9 r1 c9)).far (p := ⟨gz, 1, none⟩) hnbL (.slice B9 r2 d9)).c0, ((bL.far (p := ⟨gz, 0, none⟩) hnbL (.slice A9 r1 c9)).far (p := ⟨gz, 1, none⟩) hnbL (.slice B9 r2 d9)).c1⟩, ((bM.far (p := ⟨gz, 0, none⟩) hnbM (.slice A9 r1 c9)).far (p := ⟨gz, 1, none⟩) hnbM (.slice B9 r2 d9)).d4⟩) ?_; clear hK K; (try simp only [Act.put, qqA, qqB, qqC]); clear rc0 rf0 rc1 rf1; repeat (first | (refine HP.tk ?_; (try simp only [Act.put, qqA, qqB, qqC])) | (refine HP.sk ?_; (try simp only [Act.put, qqA, qqB, qqC]))); refine HP.done ?_; have rq := (bz.set0 (.slice A9 r1 c9)).set1 (.slice B9 r2 d9); have hnf := (hXs.setCell (p := ⟨gz, 0, none⟩) hgz (.slice A9 r1 c9)).setCell (p := ⟨gz, 1, none⟩) hgz (.slice B9 r2 d9); have hSf := hS.twoW bz (.slice A9 r1 c9) (.slice B9 r2 d9); have hWf := hW.twoW bz (.slice A9 r1 c9) (.slice B9 r2 d9); generalize (wv.setCell ⟨gz, 0, none⟩ (.slice A9 r1 c9)).setCell ⟨gz, 1, none⟩ (.slice B9 r2 d9) = Wf at *; exact key gz A9 c9 B9 d9 Wf Ai ci Bi di Ki ki ⟨rq, hSf, hWf, hgz, hnf⟩)
    | (with_reducible refine HP.both ?_ ?_)
    | (with_reducible refine HP.three ?_ ?_ ?_)
    | (with_reducible refine HP.call ?_)
    | (refine HP.tk ?_; (try simp only [Act.put, qqA, qqB, qqC]))
    | (refine HP.sk ?_; (try simp only [Act.put, qqA, qqB, qqC]))
    | (refine cSt fun K hK => ?_; go_simp; first
      | ((with_reducible refine callAt 34 ?_); refine (toDisk_c A A2 n c n2 c2 w.heap.size ss ws _ (h.below hX nle) (h2.below hX nle) hX.size hn' hn2').mono ?_; rintro e wv ⟨Ai, ni, ci, Bi, mi, di, rfl, hiS, hiW, hk⟩; obtain rfl : n = ni := h.1.symm.trans hiS.1; obtain rfl : n2 = mi := h2.1.symm.trans hiW.1; have zhk := hk.size; replace bL := bL.nx hk; replace bM := bM.nx hk; replace hS5 := hS5.nx hk; replace hW5 := hW5.nx hk; replace bW := bW.nx hk; replace bX := bX.nx hk; replace bG := bG.nx hk; replace hS8b := hS8b.nx hk; replace hW8b := hW8b.nx hk; replace hX := hX.trans hk; replace hXs := hXs.trans hk; (try replace bz := bz.nx hk); (try replace hiB := hiB.nx hk); (try replace hS := hS.nx hk); (try replace hW := hW.nx hk); (try replace hh9 := ntr hh9 hk.size); clear hk zhk; go_wp2_with fail; refine hK.out _ _ (by exact ⟨⟨bL.c0, bL.c1⟩, bM.d4⟩) ?_; clear hK K; (try simp only [Act.put, qqA, qqB, qqC]))
      | ((with_reducible refine callAt 35 ?_); refine (toFrame_c p b v t _).mono ?_; rintro e wv ⟨rfl, hk⟩; have zhk := hk.size; replace bL := bL.nx hk; replace bM := bM.nx hk; replace hS5 := hS5.nx hk; replace hW5 := hW5.nx hk; replace bW := bW.nx hk; replace bX := bX.nx hk; replace bG := bG.nx hk; replace hS8b := hS8b.nx hk; replace hW8b := hW8b.nx hk; replace hX := hX.trans hk; replace hXs := hXs.trans hk; (try replace bz := bz.nx hk); (try replace hiS := hiS.nx hk); (try replace hiW := hiW.nx hk); (try replace hiB := hiB.nx hk); (try replace hS := hS.nx hk); (try replace hW := hW.nx hk); (try replace hh9 := ntr hh9 hk.size); clear hk zhk; go_wp2_with fail; refine hK.out _ _ (by exact ⟨⟨bL.c0, bL.c1⟩, bM.d4⟩) ?_; clear hK K; (try simp only [Act.put, qqA, qqB, qqC]))
      | ((with_reducible refine callAt 39 ?_); refine (toBoolS_c KA m kc w.heap.size bs _ (h3.below hX nle) hX.size hmm).mono ?_; rintro e wv ⟨Ki, mi', ki, rfl, hiB, hk⟩; obtain rfl : m = mi' := h3.1.symm.trans hiB.1; have zhk := hk.size; replace bL := bL.nx hk; replace bM := bM.nx hk; replace hS5 := hS5.nx hk; replace hW5 := hW5.nx hk; replace bW := bW.nx hk; replace bX := bX.nx hk; replace bG := bG.nx hk; replace hS8b := hS8b.nx hk; replace hW8b := hW8b.nx hk; replace hX := hX.trans hk; replace hXs := hXs.trans hk; (try replace bz := bz.nx hk); (try replace hiS := hiS.nx hk); (try replace hiW := hiW.nx hk); (try replace hS := hS.nx hk); (try replace hW := hW.nx hk); (try replace hh9 := ntr hh9 hk.size); clear hk zhk; go_wp2_with fail; refine hK.out _ _ (by exact ⟨⟨bL.c0, bL.c1⟩, bM.d4⟩) ?_; clear hK K; (try simp only [Act.put, qqA, qqB, qqC]))
      | ((with_reducible refine callAt 29 ?_); refine (implAppendTorn_r Ai Bi n ci n2 di _ ss ws p b v t Ki m ki bs _ a0 a1 R1 R2 cd HPc.out hiS.strs hiW.wrs nle hn' hn2' hiB.bls hmm (hE.nx hX) (hM.nx hX) (hEt.nx hX) (hT.nx hX)).mono ?_; rintro e wv ⟨A9, n9, c9, B9, m9, d9, rfl, hS, hW, hk⟩; obtain rfl : r1 = n9 := Hr1.out.symm.trans hS.1; obtain rfl : r2 = m9 := Hr2.out.symm.trans hW.1; replace hS := hS.low (lo' := wh.heap.size) (by have := hXs.size; omega); replace hW := hW.low (lo' := wh.heap.size) (by have := hXs.size; omega); have hDone := True.intro; have zhk := hk.size; replace bL := bL.nx hk; replace bM := bM.nx hk; replace hS5 := hS5.nx hk; replace hW5 := hW5.nx hk; replace bW := bW.nx hk; replace bX := bX.nx hk; replace bG := bG.nx hk; replace hS8b := hS8b.nx hk; replace hW8b := hW8b.nx hk; replace hX := hX.trans hk; replace hXs := hXs.trans hk; (try replace bz := bz.nx hk); (try replace hiS := hiS.nx hk); (try replace hiW := hiW.nx hk); (try replace hiB := hiB.nx hk); (try replace hh9 := ntr hh9 hk.size); clear hk zhk; go_wp2_with fail; refine hK.out _ _ (by exact ⟨⟨bL.c0, bL.c1⟩, bM.d4⟩) ?_; clear hK K; (try simp only [Act.put, qqA, qqB, qqC]))
      | (have bz := Box.new wv 35 #[nsl, nsl]; have hz := (Nx.refl wv).alloc (.cells #[nsl, nsl] 35); have hnbL := Nat.ne_of_lt bL.lt; have hnbM := Nat.ne_of_lt bM.lt; have hgz := hXs.size; (try have hgh := hh9); have zhz := hz.size; replace bL := bL.nx hz; replace bM := bM.nx hz; replace hS5 := hS5.nx hz; replace hW5 := hW5.nx hz; replace bW := bW.nx hz; replace bX := bX.nx hz; replace bG := bG.nx hz; replace hS8b := hS8b.nx hz; replace hW8b := hW8b.nx hz; replace hX := hX.trans hz; replace hXs := hXs.trans hz; (try replace bz := bz.nx hz); (try replace hiS := hiS.nx hz); (try replace hiW := hiW.nx hz); (try replace hiB := hiB.nx hz); (try replace hS := hS.nx hz); (try replace hW := hW.nx hz); (try replace hh9 := ntr hh9 hz.size); clear zhz; refine hK.out _ _ (by exact ⟨⟨bL.c0, bL.c1⟩, bM.d4⟩) ?_; clear hK K; (try simp only [Act.put, qqA, qqB, qqC]); clear hz; change HP _ _ _ _ _ _ (wv.alloc (.cells #[nsl, nsl] 35)); generalize wv.heap.size = gz at *; generalize wv.alloc (.cells #[nsl, nsl] 35) = wv at *)))
 intro gH A15 c15 B15 d15 W15 Ai15 ci15 Bi15 di15 Ki15 ki15 ⟨bH, hS15, hW15, hgH, hxr15⟩
 have zb15 := bH.lt
 have zhxr15 := hxr15.size; replace bL := bL.nx hxr15; replace bM := bM.nx hxr15; replace hS5 := hS5.nx hxr15; replace hW5 := hW5.nx hxr15; replace bW := bW.nx hxr15; replace bX := bX.nx hxr15; replace bG := bG.nx hxr15; replace hS8b := hS8b.nx hxr15; replace hW8b := hW8b.nx hxr15; replace hX := hX.trans hxr15
 replace hS15 := hS15.sr
 replace hW15 := hW15.sr
 clear hxr15
 have lc0 := bW.c0
 have lc1 := bW.c1
 have nc0 := bH.c0
 have nc1 := bH.c1
 go_wp2_with fail
 refine (eqDisk_c A15 B15 A5 B5 r1 c15 c5 r2 d15 d5 _ R1 R2 _ hS15.sl.strs hS5.sl.strs hW15.sl.wrs hW5.sl.wrs nle hr1 hr2).mono ?_
 rintro e wg ⟨rfl, hxg⟩
 have zhxg := hxg.size; replace bL := bL.nx hxg; replace bM := bM.nx hxg; replace hS5 := hS5.nx hxg; replace hW5 := hW5.nx hxg; replace bW := bW.nx hxg; replace bX := bX.nx hxg; replace bG := bG.nx hxg; replace hS8b := hS8b.nx hxg; replace hW8b := hW8b.nx hxg; replace hS15 := hS15.nx hxg; replace hW15 := hW15.nx hxg; replace bH := bH.nx hxg; replace hX := hX.trans hxg
 clear lc0 lc1 nc0 nc1
 have nc0 := bG.c0
 have nc1 := bG.c1
 go_wp2_with fail
 refine (heldDisk_c A8 B8 r1 c8 r2 d8 1 _ _ hS8b.sl.strs hW8b.sl.wrs nle hr1 hr2 (by omega)).mono ?_
 rintro e wi ⟨rfl, hxi⟩
 rw [Hk3.out]
 have zhxi := hxi.size; replace bL := bL.nx hxi; replace bM := bM.nx hxi; replace hS5 := hS5.nx hxi; replace hW5 := hW5.nx hxi; replace bW := bW.nx hxi; replace bX := bX.nx hxi; replace bG := bG.nx hxi; replace hS8b := hS8b.nx hxi; replace hW8b := hW8b.nx hxi; replace hS15 := hS15.nx hxi; replace hW15 := hW15.nx hxi; replace bH := bH.nx hxi; replace hX := hX.trans hxi
 go_wp2
 go_ret
 exact ⟨rfl, hX⟩
end Go.Proofs.YtieoiailjjnnoaaGreatDoor
namespace Go.Proofs.YtieoiailjjnnoaaGreatDoor
set_option linter.unusedVariables false
set_option maxRecDepth 100000
set_option maxHeartbeats 16000000
open Go.Joins Go.ChangeShapes Go.WideShapes Go.RowKit Go.Deep
theorem c3_ : Tryz.prog.cellsOf 3 = 1 := by kernel_rfl
theorem c9_ : Tryz.prog.cellsOf 9 = 1 := by kernel_rfl
theorem cLD : Tryz.prog.cellsOf 68 = 2 := by kernel_rfl
theorem cLW : Tryz.prog.cellsOf 194 = 2 := by kernel_rfl
theorem addr_plain {w : World} {a : Addr} {v : Value} (h : w.cell? (a.add 0) = some v) : ∃ b off, a = ⟨b, off, none⟩ ∧ b < w.heap.size := by
 have h' : w.cell? a = some v := by simpa [Addr.add] using h
 have hs := World.cell?_spot h'
 obtain ⟨b, off, sp⟩ := a
 simp only at hs
 subst hs
 exact ⟨b, off, rfl, World.block_lt_of_cell? w _ h'⟩
theorem addr_add (b off i : Nat) : (Addr.mk b off none).add i = ⟨b, off + i, none⟩ := by
 unfold Addr.add
 by_cases h : i = 0
 · subst h; simp
 · simp [h]
section
variable {H : Type} {enc : TypeId × Value → H} {w : World} {base : Nat} {spare : Nat → Bool} {held : Bool}
theorem open_strs_ {fuel : Nat} {v : Value} {x : DataW H × List MemPlace} (h : DataW.trod enc Tryz.prog w base spare held fuel 32 [v] = some x) :
 ∃ (A : Option Addr) (n c : Nat) (ss : List BA), v = .slice A n c ∧ Strs w w.heap.size A n ss ∧ AllS ss ∧ n ≤ 2 ^ 63 - 1 := by
 rcases open_strings Tryz.underlying32 Tryz.underlying9 c9_ h with ⟨hcs, _⟩ | ⟨a, len, cap, ss, hcs, _, hl, hm, hlen, _, hcell, hws⟩
 · refine ⟨none, 0, 0, [], by simpa using hcs, ⟨rfl, fun hn => absurd hn (by omega)⟩, fun k => by simp, by omega⟩
 · have hle : len ≤ ss.length := by rw [hlen]; split <;> omega
   unfold maxLen at hm hws
   refine ⟨some a, len, cap, ss.take len, by simpa using hcs, ⟨by simp [hle], fun hn => ?_⟩, fun k => ?_, by omega⟩
   · obtain ⟨b, off, rfl, hb⟩ := addr_plain (hcell 0 (by omega))
     refine ⟨b, off, rfl, hb, fun i hi => ?_⟩
     have := hcell i (by omega)
     rw [addr_add] at this
     dsimp only
     rw [this, gdE, gdE, List.getElem?_take_of_lt hi]
   · rw [gdE]
     by_cases hk : k < (ss.take len).length
     · rw [List.getElem?_eq_getElem hk]
       exact hws _ (List.mem_of_mem_take (List.getElem_mem hk))
     · rw [List.getElem?_eq_none (by omega)]
       simp
theorem open_writes_ {fuel : Nat} {v : Value} {x : DataW H × List MemPlace} (h : DataW.trod enc Tryz.prog w base spare held fuel 66 [v] = some x) :
 ∃ (A : Option Addr) (n c : Nat) (ws : List (Int × BA)), v = .slice A n c ∧ Wrs w w.heap.size A n ws ∧ AllW ws ∧ n ≤ 2 ^ 63 - 1 := by
 rcases open_slice Tryz.underlying66 h with ⟨hcs, _⟩ | ⟨a, len, cap, m, n, D, Pl, hcs, _, hl, hm, hmm, _, hi⟩
 · refine ⟨none, 0, 0, [], by simpa using hcs, ⟨rfl, fun hn => absurd hn (by omega)⟩, fun k => by simp, by omega⟩
 · have hle : len ≤ m := by rw [hmm]; split <;> omega
   unfold maxLen at hm
   have key : ∀ i, ∃ p : Int × BA, i < m → w.cell? (a.add (i * 2)) = some (ii p.1) ∧ w.cell? ((a.add (i * 2)).add 1) = some (.string p.2) ∧ p.2.size ≤ 2 ^ 63 - 1 := by
    intro i
    by_cases him : i < m
    · obtain ⟨cs', hc, ht⟩ := hi i him
      rw [cLW] at hc
      obtain ⟨_, hcl, hat⟩ := World.cells?_some hc
      obtain ⟨y0, y1, k, _, _, t0, t1⟩ := trod_struct2 Tryz.underlying194 ht
      match cs', hcl with
      | [u0, u1], _ =>
        have e0 : ∃ q, [u0] = [Value.int .i64 q] := by
         obtain ⟨q, e, _, _⟩ := DataW.trod_int (k := .i64) Tryz.underlying3 t0
         rw [c3_] at e
         exact ⟨q, e⟩
        have e1 : ∃ q, [u1] = [Value.string q] ∧ q.size ≤ maxLen := by
         obtain ⟨q, e, _, hq⟩ := DataW.trod_string Tryz.underlying9 t1
         rw [c9_] at e
         exact ⟨q, e, hq⟩
        obtain ⟨q0, e0⟩ := e0
        obtain ⟨q1, e1, hq⟩ := e1
        simp only [List.cons.injEq, and_true] at e0 e1
        subst e0 e1
        refine ⟨(q0, q1), fun _ => ⟨?_, hat 1 (by omega), by unfold maxLen at hq; exact hq⟩⟩
        have := hat 0 (by omega)
        simpa [Addr.add] using this
    · exact ⟨(0, ByteArray.empty), fun h => absurd h him⟩
   obtain ⟨g, hg⟩ := Classical.skolem.1 key
   have hget : ∀ k, k < len → ((List.range len).map g).getD k (0, ByteArray.empty) = g k := by
    intro k hk
    rw [gdE, List.getElem?_map, List.getElem?_range hk]; rfl
   refine ⟨some a, len, cap, (List.range len).map g, by simpa using hcs, ⟨by simp, fun hn => ?_⟩, fun k => ?_, by omega⟩
   · have h0 := (hg 0 (by omega)).1
     rw [Nat.zero_mul] at h0
     obtain ⟨b, off, rfl, hb⟩ := addr_plain h0
     refine ⟨b, off, rfl, hb, fun i hi => ?_⟩
     have h1 := (hg (i / 2) (by omega)).1
     have h2 := (hg (i / 2) (by omega)).2.1
     rw [addr_add] at h1 h2
     rw [addr_add] at h2
     dsimp only
     by_cases hp : i % 2 = 0
     · rw [if_pos hp, hget _ (by omega)]
       rw [show off + i = off + i / 2 * 2 by omega]
       exact h1
     · rw [if_neg hp, hget _ (by omega)]
       rw [show off + i = off + i / 2 * 2 + 1 by omega]
       exact h2
   · by_cases hk : k < len
     · rw [hget k hk]; exact (hg k (by omega)).2.2
     · rw [gdE, List.getElem?_eq_none (by simp; omega)]
       simp
theorem open_disk {r : Reach} {b0 : Nat} {v : Value} {d : DataW H} {p : List MemPlace} (hv : Value.okWide Tryz.prog w r b0 68 v) (h : DataW.Trod enc Tryz.prog w base spare held 68 v d p) :
 ∃ (A : Option Addr) (n c : Nat) (ss : List BA) (A2 : Option Addr) (n2 c2 : Nat) (ws : List (Int × BA)), v = .agg #[.slice A n c, .slice A2 n2 c2] ∧ Strs w w.heap.size A n ss ∧ Wrs w w.heap.size A2 n2 ws ∧
   AllS ss ∧ AllW ws ∧ n ≤ 2 ^ 63 - 1 ∧ n2 ≤ 2 ^ 63 - 1 := by
 obtain ⟨v0, v1, y0, y1, m, rfl, _, _, t0, t1⟩ := open_agg2 Tryz.underlying68 (by kernel_rfl) cLD hv h
 obtain ⟨A, n, c, ss, rfl, hS, hm, hn⟩ := open_strs_ t0
 obtain ⟨A2, n2, c2, ws, rfl, hW, hm2, hn2⟩ := open_writes_ t1
 exact ⟨A, n, c, ss, A2, n2, c2, ws, rfl, hS, hW, hm, hm2, hn, hn2⟩
end
end Go.Proofs.YtieoiailjjnnoaaGreatDoor
namespace Go.Proofs.YtieoiailjjnnoaaGreatDoor
set_option linter.unusedVariables false
set_option maxRecDepth 100000
set_option maxHeartbeats 16000000
open Go.ChangeShapes Go.WideShapes Go.ChangeAt Go.WideMaps Go.WideElems Go.RowKit
theorem ownP : ownKnob Tryz.prog.godebug = none := by kernel_rfl
theorem laidOutP : laidOutB Tryz.prog = true := by kernel_rfl
theorem gLongP : Tryz.prog.globalNamed "loop.example/g00608/impl.errTextLong" = some 1 := by kernel_rfl
theorem gFormP : Tryz.prog.globalNamed "loop.example/g00608/impl.errTextForm" = some 0 := by kernel_rfl
theorem tLongP : (Tryz.prog.globals[1]?).map (·.type) = some 86 := by kernel_rfl
theorem tFormP : (Tryz.prog.globals[0]?).map (·.type) = some 86 := by kernel_rfl
theorem starP : "*" ++ "errors.errorString" = "*errors.errorString" := by decide
theorem rowEP (u : TypeId) (h : Tryz.prog.typeName? 3 u = some "*errors.errorString") : u = 290 :=
 typeName_ptr_named (nm := "errors.errorString") (by rw [starP]; kernel_rfl) (by kernel_rfl) (by decide) u (by rw [starP]; exact h)
theorem cellsEP : Tryz.prog.cellsOf 308 = 1 := by kernel_rfl
theorem cellsSP : Tryz.prog.cellsOf 9 = 1 := by kernel_rfl
theorem etP : Tryz.prog.globalNamed "errors.errorType" = some 2 := by kernel_rfl
theorem rtP : (Tryz.prog.cutTypes.find? (·.1 == "internal/reflectlite.rtype")).map (·.2) = some 242 := by kernel_rfl
theorem oneRowP : ((List.range (420 - 100)).filter fun t => Tryz.prog.rowNamed t [101, 114, 114, 111, 114]) = [86] := by kernel_rfl
theorem sizeP : Tryz.prog.types.size = 420 - 100 := by kernel_rfl
noncomputable def typeWorld (os : Os) : World :=
 let w0 := World.holding Tryz.prog os ⟨#[], #[], []⟩
 { w0 with heap := w0.heap.modify 2 fun
  | .cells _ t frozen => .cells #[.iface 242 (.agg #[.pointer (some ⟨9, 86, none⟩)])] t frozen
  | o => o }
theorem et_of_handle {W : World} {l : List (String × DataW Unit)} (h : handlesMet Tryz.prog l W) (hl : ("errors.errorType", Rows.laid_errors_errorType) ∈ l) : Et W := by
 obtain ⟨name, u, ty, e1, e2, e3, e4, e5⟩ := h _ hl
 have en : name = [101, 114, 114, 111, 114] := (Option.some.inj e1).symm
 subst en
 obtain rfl := Option.some.inj (rtP.symm.trans e2)
 have hm : ty ∈ (List.range (420 - 100)).filter fun t => Tryz.prog.rowNamed t [101, 114, 114, 111, 114] := List.mem_filter.2 ⟨List.mem_range.2 (by rw [← sizeP]; exact e3), e4⟩
 rw [oneRowP] at hm
 obtain rfl := List.mem_singleton.1 hm
 have hh : typeHandle Tryz.prog 86 = .pointer (some ⟨9, 86, none⟩) := by kernel_rfl
 rw [hh] at e5
 unfold Et
 simpa using World.var?_cell etP e5 0
theorem laid_over {w0 : World} {laid : List (String × DataW Unit)} (args : Array Value) (hf : w0.layFits Tryz.prog laid [] = true) (hi : w0.layIfaces Tryz.prog laid (w0.layVars Tryz.prog laid) = true) :
 laidMet Tryz.prog laid ((w0.layVars Tryz.prog laid).forCall (fun _ _ => 0) ⟨#[], args, []⟩).memory := by
 have e1 : (laid.filter fun x => (laid.map (·.1)).contains x.1) = laid := List.filter_eq_self.2 fun x hx => List.contains_iff_mem.2 (List.mem_map.2 ⟨x, hx, rfl⟩)
 have e2 : (laid.filter fun x => !(laid.map (·.1)).contains x.1) = [] := List.filter_eq_nil_iff.2 fun x hx => by rw [List.contains_iff_mem.2 (List.mem_map.2 ⟨x, hx, rfl⟩)]; simp
 have h : laidMet Tryz.prog laid (w0.layVars Tryz.prog laid) := laidMet_layVars (w0 := w0) (laid.map (·.1)) [] (by rw [e1]) (by rw [e1]; exact hf) (by rw [e1]; exact hi) (by rw [e2]; exact LaidIn.none)
 exact h.of_heap (by simp [World.memory, World.forCall, Input.heap])
def plainQ : List (String × DataW Unit) := [("math/bits.deBruijn32tab", Rows.laid_math_bits_deBruijn32tab), ("math/bits.deBruijn64tab", Rows.laid_math_bits_deBruijn64tab), ("internal/strconv.uint64pow10", Rows.laid_internal_strconv_uint64pow10), ("unicode/utf8.acceptRanges", Rows.laid_unicode_utf8_acceptRanges), ("loop.example/g00608/impl.errTextLong", Rows.laid_loop_example_g00608_impl_errTextLong), ("loop.example/g00608/impl.errTextForm", Rows.laid_loop_example_g00608_impl_errTextForm), ("unicode/utf8.first", Rows.laid_unicode_utf8_first)]
def laidP : List (String × DataW Unit) := [("math/bits.deBruijn32tab", Rows.laid_math_bits_deBruijn32tab), ("math/bits.deBruijn64tab", Rows.laid_math_bits_deBruijn64tab), ("internal/strconv.uint64pow10", Rows.laid_internal_strconv_uint64pow10), ("unicode/utf8.acceptRanges", Rows.laid_unicode_utf8_acceptRanges), ("errors.errorType", Rows.laid_errors_errorType), ("loop.example/g00608/impl.errTextLong", Rows.laid_loop_example_g00608_impl_errTextLong), ("loop.example/g00608/impl.errTextForm", Rows.laid_loop_example_g00608_impl_errTextForm), ("unicode/utf8.first", Rows.laid_unicode_utf8_first)]
noncomputable def worldP (os : Os) : World := (typeWorld os).layVars Tryz.prog plainQ
theorem worldP_os (os : Os) : (worldP os).os = os := World.layVars_os _ _ _
theorem door_metP (os : Os) (args : Array Value) : laidMetH Tryz.prog laidP ((worldP os).forCall (fun _ _ => 0) ⟨#[], args, []⟩).memory :=
 laidMetH_of_parts (laid_over (laid := plainQ) args (by kernel_rfl) (by kernel_rfl)) (by kernel_rfl)
theorem of_laidP {W : World} (h : laidMetH Tryz.prog laidP W) : (∃ a0 a1, Er W a0 a1) ∧ Et W := by
 have h' : laidMet Tryz.prog plainQ W ∧ handlesMet Tryz.prog [("errors.errorType", Rows.laid_errors_errorType)] W := h
 obtain ⟨a1, a0, s1, s0, c1, c0, t1, t0, hv1, hv0, _, _, _, _, _, _, hne, hb1, hb0⟩ := laid_sentinels2 (laidMet.tail (laidMet.tail (laidMet.tail (laidMet.tail h'.1)))) gLongP tLongP gFormP tFormP Tryz.underlying86 rowEP Tryz.underlying290 Tryz.underlying308 rfl rfl Tryz.underlying9 cellsEP cellsSP
 exact ⟨⟨a0, a1, World.var?_cell gFormP hv0 0, World.var?_cell gLongP hv1 0, hne.symm, ⟨c0, t0, hb0⟩, c1, t1, hb1⟩, et_of_handle h'.2 (List.mem_singleton.2 rfl)⟩
theorem pow_datum : (Rows.laid_internal_strconv_uint64pow10 : DataW Unit) = Lib.tabData .u64 Lib.pow10Tab := by kernel_rfl
theorem gPow : ∃ g, Tryz.prog.globalNamed "internal/strconv.uint64pow10" = some g ∧ (Tryz.prog.globals[g]?).map (·.type) = some 280 := ⟨(Tryz.prog.globalNamed "internal/strconv.uint64pow10").getD 0, by kernel_rfl, by kernel_rfl⟩
theorem tab_of_laidP {W : World} (h : laidMetH Tryz.prog laidP W) : Tab W := by
 have h' : laidMet Tryz.prog plainQ W ∧ handlesMet Tryz.prog [("errors.errorType", Rows.laid_errors_errorType)] W := h
 have h1 := laidMet.tail (laidMet.tail h'.1)
 rw [pow_datum] at h1
 obtain ⟨g, hg, hty⟩ := gPow
 exact Lib.tabIs_of_head hg hty Tryz.underlying280 Tryz.underlying268 (by kernel_rfl) (by kernel_rfl) h1
theorem mx_of_shaped {W : World} (h : W.ShapedOpen Tryz.prog) : Mx W := cell_of_shapedOpen_int (zero := #[ii 0]) h (of_decide_eq_true (by kernel_rfl)) (by kernel_rfl) rfl (by kernel_rfl) (by kernel_rfl) Tryz.underlying3
variable {H : Type} {enc : TypeId × Value → H}
theorem handed_shaped {a : Assume} {C : Checked} {os : Os} {f : FuncId} {fn : Func} {s : ChangeSpec} {conds : List PathCond} {apart fresh handsOn again : Bool} {X : World → Array Value → Prop}
 (hX : ∀ (w w' : World) (args : Array Value), w.heap = w'.heap → X w args → X w' args)
 (own : ownKnob C.prog.godebug = none) (started : os.Started) (noInit : C.prog.inits.idxOf? f = none) (hfn : C.prog.funcs[f]? = some fn)
 (witness : ∃ (w : World) (tape : Tape) (i : Input), w.os = os ∧ (w.forCall tape i).Shaped C.prog ∧ i.vars = [] ∧ Input.okWide C.prog (w.forCall tape i) .any w.heap.size f i ∧
  ((s.pre enc C.prog fn conds apart (w.forCall tape i).memory i.args ∧ X (w.forCall tape i).memory i.args) ∧ sizedMet enc C.prog fn (OpenSpec.ofChange s) apart (w.forCall tape i).memory i.args) ∧ a.holds C.prog (lone (Frame.enter C.prog f i.args .normal) [] (w.forCall tape i)))
 (contract : ∀ (W : World) (base : Nat) (args : Array Value) (ds gs : List (DataW H)) (before : List MemPlace),
  (∀ (j : Nat) t v, fn.params[j]? = some t → args[j]? = some v → Value.okWide C.prog W .any base t v) →
  DataW.Whole enc C.prog fn.params.toList s.vars apart W args.toList ds gs before →
  W.ShapedOpen C.prog → X W args →
  Calls C.prog f args W fun e W' => ∃ v, e = .returned v ∧ s.post enc C.prog fn apart fresh handsOn again W args v W') :
 ReturnsInHanded a C os f .any (fun w args => (s.pre enc C.prog fn conds apart w args ∧ X w args) ∧ sizedMet enc C.prog fn (OpenSpec.ofChange s) apart w args) (s.post enc C.prog fn apart fresh handsOn again) := by
 refine returnsInHanded_of_calls own started noInit witness ?_
 intro w tape i _ hsh _ hok hpre hholds
 obtain ⟨_, _, _, fn', hfn', _, _, _, _, hval⟩ := hok
 have e : fn' = fn := Option.some.inj (hfn'.symm.trans hfn)
 subst e
 obtain ⟨⟨⟨ds, gs, before, hw, hc⟩, hx⟩, hz⟩ := hpre
 have hw' := DataW.Whole.of_heap (w' := w.forCall tape i) (by rfl) hw
 refine (contract (w.forCall tape i) w.heap.size i.args ds gs before hval hw' hsh (hX _ _ _ (by rfl) hx)).mono fun e W' ⟨v, he, hp⟩ => ?_
 subst he
 exact ChangeSpec.post_blind hp
end Go.Proofs.YtieoiailjjnnoaaGreatDoor
