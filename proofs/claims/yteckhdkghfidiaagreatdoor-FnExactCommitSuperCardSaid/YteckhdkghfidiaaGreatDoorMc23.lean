/-
  Texts of the proof, put together in their order: Csp, Cmi, Cmx, Sz, Eq, Lcm, Open, Dle.
  Conditions: those of each.
-/
import Derived.Test.YteckhdkghfidiaaGreatDoorMc22
import Derived.Outline
import Derived.Deep.QuietTactic
import Derived.BigQuiet
import Derived.StillTailTactics
import Derived.Lib.SmallJoins
import Derived.SliceStrings
import Derived.Deep.Slices
import Derived.Deep.Fields
import Derived.ChangeSame
import Derived.Test.YteckhdkghfidiaaGreatDoorRows
import Derived.LaidHandle
import Derived.Lay
import Derived.HandedShaped
import Derived.Shelf.Vars
import Derived.ProofKit
import Derived.LaidMore
import Derived.OpenShut
import Derived.OpenVars
import Derived.Stop.Joined
import Derived.Stop.LaidTwo
import Derived.Lib.LaidTab
import Derived.LaidLaws
import Derived.ShutString
import Derived.ChangeOld
import Derived.Below
/- Contract of the model's CommitSuper. Conditions: the disk and the super can be read, and hold at most 1048576 elements of a kind. -/
namespace Go.Proofs.YteckhdkghfidiaaGreatDoor
set_option linter.unusedVariables false
set_option maxRecDepth 100000
open Go.RowKit

theorem RetDiskCode.mk {w w' : World} {ss : List ByteArray} {ws : List (Int × ByteArray)} {R : (List ByteArray × List (Int × ByteArray)) × Int} {k : Int} {A A2 : Option Addr} {n c n2 c2 : Nat} (hR : R = ((ss, ws), k)) (hS : SlS w' w.heap.size A n ss) (hW : SlW w' w.heap.size A2 n2 ws) (hn : Nx w w') :
    RetDiskCode w R.1.1 R.1.2 R.2 (.returned (.tuple #[.agg #[.slice A n c, .slice A2 n2 c2], .int .i64 k])) w' := by subst hR; exact ⟨A, n, c, A2, n2, c2, rfl, hS, hW, hn⟩
theorem RetDiskCode.zero {w w' : World} {R : (List ByteArray × List (Int × ByteArray)) × Int} {k : Int} (hR : R = (([], []), k)) (hn : Nx w w') :
    RetDiskCode w R.1.1 R.1.2 R.2 (.returned (.tuple #[.agg #[.slice none 0 0, .slice none 0 0], .int .i64 k])) w' := by
  subst hR; exact ⟨none, 0, 0, none, 0, 0, rfl, ⟨rfl, fun h => absurd h (by omega)⟩, ⟨rfl, fun h => absurd h (by omega)⟩, hn⟩
section
variable {ss : List ByteArray} {ws : List (Int × ByteArray)} {g b p t : Int} {xs : List Int} {ms : List Mrk}
theorem cmP_bad (h : (diskB ss ws && superB g b p t xs ms) = false) : cmP ss ws g b p t xs ms = (([], []), 1) := by unfold cmP; rw [h]; rfl
theorem cmP_none (h : diskB ss ws = true) (h2 : superB g b p t xs ms = true) (hu : newU (rdU (readP ss ws 0)) (rdU (readP ss ws 1)) = none) : cmP ss ws g b p t xs ms = ((ss, ws), 19) := by unfold cmP; rw [h, h2, hu]; rfl
theorem cmP_full {u : U6} {s : Int} (h : diskB ss ws = true) (h2 : superB g b p t xs ms = true) (hu : newU (rdU (readP ss ws 0)) (rdU (readP ss ws 1)) = some (u, s)) (h9 : u.1 = 999999) : cmP ss ws g b p t xs ms = ((ss, ws), 7) := by
  unfold cmP; rw [h, h2, hu]; show (if u.1 = 999999 then _ else _) = _; rw [if_pos h9]
theorem cmP_yes {u : U6} {s : Int} (h : diskB ss ws = true) (h2 : superB g b p t xs ms = true) (hu : newU (rdU (readP ss ws 0)) (rdU (readP ss ws 1)) = some (u, s)) (h9 : u.1 ≠ 999999) : cmP ss ws g b p t xs ms = ((settleTo kpAll (settleTo kpAll ss ws ws.length) [(1 - s, nxtS u b p t xs ms)] 1, []), 0) := by
  unfold cmP; rw [h, h2, hu]; show (if u.1 = 999999 then _ else _) = _; rw [if_neg h9]
end
set_option maxHeartbeats 1600000 in
theorem specCommitSuper_c (A A2 : Option Addr) (n c n2 c2 B : Nat) (ss : List ByteArray) (ws : List (Int × ByteArray)) (g b p t : Int) (Ax Am : Option Addr) (cx cm : Nat) (xs : List Int) (ms : List Mrk) (w : World) (h : Strs w B A n ss) (h2 : Wrs w B A2 n2 ws) (hs : Ins w B Ax xs) (hmk : Mks w B Am ms) (hB : B ≤ w.heap.size) (hn : n ≤ 1048576) (hn2 : n2 ≤ 1048576) (hx : xs.length ≤ 1048576) (hms : ms.length ≤ 1048576) (hcx : xs.length ≤ cx) (hAm : AllM ms) :
    Calls Tryz.prog 13 #[.agg #[.slice A n c, .slice A2 n2 c2], .agg #[.int .i64 g, .int .i64 b, .int .i64 p, .int .i64 t, .slice Ax xs.length cx, .slice Am ms.length cm]] w (RetDiskCode w (cmP ss ws g b p t xs ms).1.1 (cmP ss ws g b p t xs ms).1.2 (cmP ss ws g b p t xs ms).2) := by
  have e0 : Box (((w.alloc (.cells #[.slice A n c, .slice A2 n2 c2] 35)).alloc (.cells #[.int .i64 g, .int .i64 b, .int .i64 p, .int .i64 t, .slice Ax xs.length cx, .slice Am ms.length cm] 26)).alloc (.cells #[.slice none 0 0, .slice none 0 0] 35)) w.heap.size 35 #[.slice A n c, .slice A2 n2 c2] := ((Box.new w _ _).alloc _).alloc _
  have b0 : Box (((w.alloc (.cells #[.slice A n c, .slice A2 n2 c2] 35)).alloc (.cells #[.int .i64 g, .int .i64 b, .int .i64 p, .int .i64 t, .slice Ax xs.length cx, .slice Am ms.length cm] 26)).alloc (.cells #[.slice none 0 0, .slice none 0 0] 35)) (w.heap.size + 1) 26 #[.int .i64 g, .int .i64 b, .int .i64 p, .int .i64 t, .slice Ax xs.length cx, .slice Am ms.length cm] := by have := (Box.new (w.alloc (.cells #[.slice A n c, .slice A2 n2 c2] 35)) 26 #[.int .i64 g, .int .i64 b, .int .i64 p, .int .i64 t, .slice Ax xs.length cx, .slice Am ms.length cm]).alloc (.cells #[.slice none 0 0, .slice none 0 0] 35); rwa [World.size_alloc] at this
  have r0 : Box (((w.alloc (.cells #[.slice A n c, .slice A2 n2 c2] 35)).alloc (.cells #[.int .i64 g, .int .i64 b, .int .i64 p, .int .i64 t, .slice Ax xs.length cx, .slice Am ms.length cm] 26)).alloc (.cells #[.slice none 0 0, .slice none 0 0] 35)) (w.heap.size + 1 + 1) 35 #[.slice none 0 0, .slice none 0 0] := by have := Box.new ((w.alloc (.cells #[.slice A n c, .slice A2 n2 c2] 35)).alloc (.cells #[.int .i64 g, .int .i64 b, .int .i64 p, .int .i64 t, .slice Ax xs.length cx, .slice Am ms.length cm] 26)) 35 #[.slice none 0 0, .slice none 0 0]; rwa [World.size_alloc, World.size_alloc] at this
  have hx0 := (((Nx.refl w).alloc (.cells #[.slice A n c, .slice A2 n2 c2] 35)).alloc (.cells #[.int .i64 g, .int .i64 b, .int .i64 p, .int .i64 t, .slice Ax xs.length cx, .slice Am ms.length cm] 26)).alloc (.cells #[.slice none 0 0, .slice none 0 0] 35)
  go_enter Tryz.func13, Tryz.ntmps13
  go_wp2_with fail
  generalize (((w.alloc (.cells #[.slice A n c, .slice A2 n2 c2] 35)).alloc (.cells #[.int .i64 g, .int .i64 b, .int .i64 p, .int .i64 t, .slice Ax xs.length cx, .slice Am ms.length cm] 26)).alloc (.cells #[.slice none 0 0, .slice none 0 0] 35)) = W at *
  obtain ⟨gS, HgS⟩ : ∃ g, Hid (w.heap.size + 1 = g) := ⟨_, rfl⟩
  obtain ⟨gD, HgD⟩ : ∃ g, Hid (w.heap.size + 1 + 1 = g) := ⟨_, rfl⟩
  have hgS : w.heap.size ≤ gS := by have := HgS.out; omega
  have hgD : w.heap.size ≤ gD := by have := HgD.out; omega
  have hneE : w.heap.size ≠ gD := by have := HgD.out; omega
  have hneE2 : w.heap.size ≠ gS := by have := HgS.out; omega
  have hneS : gS ≠ gD := by have := HgS.out; have := HgD.out; omega
  rw [HgD.out, HgS.out]
  rw [HgS.out] at b0
  rw [HgD.out] at r0
  refine (specDiskOK_c A A2 n c n2 c2 B ss ws _ (h.below hx0 hB) (h2.below hx0 hB) (Nat.le_trans hB hx0.size) hn hn2).mono ?_
  rintro e w1 ⟨rfl, hnx1⟩
  have e1 := e0.nx hnx1
  have b1 := b0.nx hnx1
  have r1 := r0.nx hnx1
  have hx1 := hx0.trans hnx1
  clear e0 b0 r0 hx0 hnx1
  cases hD : diskB ss ws with
  | false =>
    have HPh := Lib.hid (cmP_bad (g := g) (b := b) (p := p) (t := t) (xs := xs) (ms := ms) (show (diskB ss ws && superB g b p t xs ms) = false by rw [hD]; rfl))
    clear hD
    have m0 := r1.c0
    have m1 := r1.c1
    have mf0 := r1.frozen 0
    have mf1 := r1.frozen 1
    have mlt := r1.lt
    go_wp2
    have rq := ((r1.set0 (.slice none 0 0)).set1 (.slice none 0 0))
    have hnf := ((hx1.setCell (p := ⟨gD, 0, none⟩) hgD (.slice none 0 0)).setCell (p := ⟨gD, 1, none⟩) hgD (.slice none 0 0))
    change bodyPost _ _ _ _ _ ((w1.setCell ⟨gD, 0, none⟩ (.slice none 0 0)).setCell ⟨gD, 1, none⟩ (.slice none 0 0))
    generalize ((w1.setCell ⟨gD, 0, none⟩ (.slice none 0 0)).setCell ⟨gD, 1, none⟩ (.slice none 0 0)) = Wf at *
    have q0 := rq.c0
    have q1 := rq.c1
    exact bodyPost_ret (v := .tuple #[.agg #[.slice none 0 0, .slice none 0 0], .int .i64 1]) (by simp [results, Tryz.results13, go_sem, q0, q1]) rfl (RetDiskCode.zero HPh.out hnf)
  | true =>
    obtain ⟨y0, y1, y2, y3, y4, y5⟩ := b1.d6
    have HD := Lib.hid hD
    clear hD
    go_wp2_with fail
    refine (specSuperOK_c g b p t Ax Am cx cm B xs ms _ (hs.below hx1 hB) (hmk.below hx1 hB) (Nat.le_trans hB hx1.size) hx hms hcx hAm).mono ?_
    rintro e w1b ⟨rfl, hnx1b⟩
    have e1b := e1.nx hnx1b
    have b1b := b1.nx hnx1b
    have r1b := r1.nx hnx1b
    have hx1b := hx1.trans hnx1b
    clear e1 b1 r1 hx1 hnx1b y0 y1 y2 y3 y4 y5
    cases hO : superB g b p t xs ms with
    | false =>
      have HPh := Lib.hid (cmP_bad (show (diskB ss ws && superB g b p t xs ms) = false by rw [hO]; simp))
      clear hO
      have m0 := r1b.c0
      have m1 := r1b.c1
      have mf0 := r1b.frozen 0
      have mf1 := r1b.frozen 1
      have mlt := r1b.lt
      go_wp2
      have rq := ((r1b.set0 (.slice none 0 0)).set1 (.slice none 0 0))
      have hnf := ((hx1b.setCell (p := ⟨gD, 0, none⟩) hgD (.slice none 0 0)).setCell (p := ⟨gD, 1, none⟩) hgD (.slice none 0 0))
      change bodyPost _ _ _ _ _ ((w1b.setCell ⟨gD, 0, none⟩ (.slice none 0 0)).setCell ⟨gD, 1, none⟩ (.slice none 0 0))
      generalize ((w1b.setCell ⟨gD, 0, none⟩ (.slice none 0 0)).setCell ⟨gD, 1, none⟩ (.slice none 0 0)) = Wf at *
      have q0 := rq.c0
      have q1 := rq.c1
      exact bodyPost_ret (v := .tuple #[.agg #[.slice none 0 0, .slice none 0 0], .int .i64 1]) (by simp [results, Tryz.results13, go_sem, q0, q1]) rfl (RetDiskCode.zero HPh.out hnf)
    | true =>
    have HO := Lib.hid hO
    clear hO
    obtain rfl : n = 64 := by rw [← h.1]; exact (diskB_len64 HD.out).1
    have HL64 := Lib.hid (diskB_len64 HD.out).1
    have hn80 : n2 ≤ 80 := by rw [← h2.1]; exact (diskB_len64 HD.out).2.1
    have HWo := Lib.hid (diskB_len64 HD.out).2.2.2
    have z0 := e1b.c0
    have z1 := e1b.c1
    go_wp2_with fail
    refine (l04Newest_c A A2 64 c n2 c2 B ss ws _ (h.below hx1b hB) (h2.below hx1b hB) (Nat.le_trans hB hx1b.size) (by omega) (by omega) (by omega) (by have := readP_size HD.out 0; omega) (by have := readP_size HD.out 1; omega)).mono ?_
    rintro e w2 ⟨hnx2, h1', h3⟩
    have e2 := e1b.nx hnx2
    have b2 := b1b.nx hnx2
    have r2 := r1b.nx hnx2
    have hx2 := hx1b.trans hnx2
    have zz0 := e2.c0
    have zz1 := e2.c1
    have zlt := e2.lt
    clear e1b b1b r1b hx1b hnx2 z0 z1
    cases hu : newU (rdU (readP ss ws 0)) (rdU (readP ss ws 1)) with
    | none =>
      obtain rfl := h1' hu
      have HPh := Lib.hid (cmP_none HD.out HO.out hu)
      clear h1' h3 hu
      go_wp2_with fail
      have e3 := e2.alloc (.cells #[.int .i64 0, .int .i64 0, .int .i64 0, .int .i64 0, .slice none 0 0, .slice none 0 0] 26)
      have r3 := r2.alloc (.cells #[.int .i64 0, .int .i64 0, .int .i64 0, .int .i64 0, .slice none 0 0, .slice none 0 0] 26)
      have hx3 := hx2.alloc (.cells #[.int .i64 0, .int .i64 0, .int .i64 0, .int .i64 0, .slice none 0 0, .slice none 0 0] 26)
      change Calls _ _ _ (w2.alloc (.cells #[.int .i64 0, .int .i64 0, .int .i64 0, .int .i64 0, .slice none 0 0, .slice none 0 0] 26)) _
      generalize w2.alloc (.cells #[.int .i64 0, .int .i64 0, .int .i64 0, .int .i64 0, .slice none 0 0, .slice none 0 0] 26) = w3 at *
      refine (l01Own_c A A2 64 c n2 c2 B ss ws _ (h.below hx3 hB) (h2.below hx3 hB) (Nat.le_trans hB hx3.size) (by omega) (by omega)).mono ?_
      rintro e w4 ⟨A5, n5, c5, A6, n6, c6, rfl, hS5, hW5, hnx4⟩
      have hlt9 : gD < w3.heap.size := r3.lt
      have r4 := r3.nx hnx4
      have hx4 := hx3.trans hnx4
      have m0 := r4.c0
      have m1 := r4.c1
      have mf0 := r4.frozen 0
      have mf1 := r4.frozen 1
      have mlt := r4.lt
      go_wp2
      have rq := ((r4.set0 (.slice A5 n5 c5)).set1 (.slice A6 n6 c6))
      have hnf := ((hx4.setCell (p := ⟨gD, 0, none⟩) hgD (.slice A5 n5 c5)).setCell (p := ⟨gD, 1, none⟩) hgD (.slice A6 n6 c6))
      have hSf := ((hS5.far (p := ⟨gD, 0, none⟩) hlt9 (.slice A5 n5 c5)).far (p := ⟨gD, 1, none⟩) hlt9 (.slice A6 n6 c6))
      have hWf := ((hW5.far (p := ⟨gD, 0, none⟩) hlt9 (.slice A5 n5 c5)).far (p := ⟨gD, 1, none⟩) hlt9 (.slice A6 n6 c6))
      change bodyPost _ _ _ _ _ ((w4.setCell ⟨gD, 0, none⟩ (.slice A5 n5 c5)).setCell ⟨gD, 1, none⟩ (.slice A6 n6 c6))
      generalize ((w4.setCell ⟨gD, 0, none⟩ (.slice A5 n5 c5)).setCell ⟨gD, 1, none⟩ (.slice A6 n6 c6)) = Wf at *
      have q0 := rq.c0
      have q1 := rq.c1
      exact bodyPost_ret (v := .tuple #[.agg #[.slice A5 n5 c5, .slice A6 n6 c6], .int .i64 19]) (by simp [results, Tryz.results13, go_sem, q0, q1]) rfl (RetDiskCode.mk HPh.out (hSf.low (by omega)) (hWf.low (by omega)) hnf)
    | some us =>
      obtain ⟨u, s⟩ := us
      have hsl := newU_slot hu
      have hgn := newU_gen rfl rfl hu
      obtain ⟨Bx, dx, Bm, dm, he, hfit⟩ := h3 u s hu
      have HU := Lib.hid hu
      clear h1' h3 hfit hu
      have hs0 : decide (s < 0) = false := decide_eq_false (by rcases hsl with rfl | rfl <;> omega)
      have HF0 : Hid ((readP (settleTo kpAll ss ws n2) [] 0).size ≤ 65536) := Lib.hid (by rw [← h2.1, readP_flush HD.out (by omega)]; have := readP_size HD.out 0; omega)
      have HF1 : Hid ((readP (settleTo kpAll ss ws n2) [] 1).size ≤ 65536) := Lib.hid (by rw [← h2.1, readP_flush HD.out (by omega)]; have := readP_size HD.out 1; omega)
      have HUF : Hid (newU (rdU (readP (settleTo kpAll ss ws n2) [] 0)) (rdU (readP (settleTo kpAll ss ws n2) [] 1)) = some (u, s)) := Lib.hid (by rw [← h2.1, readP_flush HD.out (by omega), readP_flush HD.out (by omega)]; exact HU.out)
      by_cases h9 : u.1 = 999999
      · have HPh := Lib.hid (cmP_full HD.out HO.out HU.out h9)
        obtain ⟨ug, ub, up, uq, uxs, ums⟩ := u
        have h9' : (ug == 999999) = true := beq_iff_eq.2 h9
        replace he : e = .returned (.tuple #[.agg #[.int .i64 ug, .int .i64 ub, .int .i64 up, .int .i64 uq, .slice Bx uxs.length dx, .slice Bm ums.length dm], .int .i64 s]) := he
        subst he
        clear h9
        go_wp2_with fail
        have e3 := e2.alloc (.cells #[.int .i64 ug, .int .i64 ub, .int .i64 up, .int .i64 uq, .slice Bx uxs.length dx, .slice Bm ums.length dm] 26)
        have r3 := r2.alloc (.cells #[.int .i64 ug, .int .i64 ub, .int .i64 up, .int .i64 uq, .slice Bx uxs.length dx, .slice Bm ums.length dm] 26)
        have hx3 := hx2.alloc (.cells #[.int .i64 ug, .int .i64 ub, .int .i64 up, .int .i64 uq, .slice Bx uxs.length dx, .slice Bm ums.length dm] 26)
        change Calls _ _ _ (w2.alloc (.cells #[.int .i64 ug, .int .i64 ub, .int .i64 up, .int .i64 uq, .slice Bx uxs.length dx, .slice Bm ums.length dm] 26)) _
        generalize w2.alloc (.cells #[.int .i64 ug, .int .i64 ub, .int .i64 up, .int .i64 uq, .slice Bx uxs.length dx, .slice Bm ums.length dm] 26) = w3 at *
        refine (l01Own_c A A2 64 c n2 c2 B ss ws _ (h.below hx3 hB) (h2.below hx3 hB) (Nat.le_trans hB hx3.size) (by omega) (by omega)).mono ?_
        rintro e w4 ⟨A5, n5, c5, A6, n6, c6, rfl, hS5, hW5, hnx4⟩
        have hlt9 : gD < w3.heap.size := r3.lt
        have r4 := r3.nx hnx4
        have hx4 := hx3.trans hnx4
        have m0 := r4.c0
        have m1 := r4.c1
        have mf0 := r4.frozen 0
        have mf1 := r4.frozen 1
        have mlt := r4.lt
        go_wp2
        have rq := ((r4.set0 (.slice A5 n5 c5)).set1 (.slice A6 n6 c6))
        have hnf := ((hx4.setCell (p := ⟨gD, 0, none⟩) hgD (.slice A5 n5 c5)).setCell (p := ⟨gD, 1, none⟩) hgD (.slice A6 n6 c6))
        have hSf := ((hS5.far (p := ⟨gD, 0, none⟩) hlt9 (.slice A5 n5 c5)).far (p := ⟨gD, 1, none⟩) hlt9 (.slice A6 n6 c6))
        have hWf := ((hW5.far (p := ⟨gD, 0, none⟩) hlt9 (.slice A5 n5 c5)).far (p := ⟨gD, 1, none⟩) hlt9 (.slice A6 n6 c6))
        change bodyPost _ _ _ _ _ ((w4.setCell ⟨gD, 0, none⟩ (.slice A5 n5 c5)).setCell ⟨gD, 1, none⟩ (.slice A6 n6 c6))
        generalize ((w4.setCell ⟨gD, 0, none⟩ (.slice A5 n5 c5)).setCell ⟨gD, 1, none⟩ (.slice A6 n6 c6)) = Wf at *
        have q0 := rq.c0
        have q1 := rq.c1
        exact bodyPost_ret (v := .tuple #[.agg #[.slice A5 n5 c5, .slice A6 n6 c6], .int .i64 7]) (by simp [results, Tryz.results13, go_sem, q0, q1]) rfl (RetDiskCode.mk HPh.out (hSf.low (by omega)) (hWf.low (by omega)) hnf)
      · have HPh := Lib.hid (cmP_yes HD.out HO.out HU.out h9)
        have HOK := Lib.hid (nxt_super HO.out hgn h9)
        have HWn : Hid (List.all ([] ++ [(1 - s, nxtS u b p t xs ms)]) wOk = true) := Lib.hid (by
          have hz := nxt_size HOK.out
          simp only [List.nil_append, List.all_cons, List.all_nil, Bool.and_true]
          unfold wOk secB sOk
          simp only [Bool.and_eq_true, decide_eq_true_eq]
          exact ⟨by rcases hsl with rfl | rfl <;> omega, hz⟩)
        obtain ⟨ug, ub, up, uq, uxs, ums⟩ := u
        have h9' : (ug == 999999) = false := beq_eq_false_iff_ne.2 h9
        replace he : e = .returned (.tuple #[.agg #[.int .i64 ug, .int .i64 ub, .int .i64 up, .int .i64 uq, .slice Bx uxs.length dx, .slice Bm ums.length dm], .int .i64 s]) := he
        subst he
        clear h9
        go_wp2_with fail
        have e3 := e2.alloc (.cells #[.int .i64 ug, .int .i64 ub, .int .i64 up, .int .i64 uq, .slice Bx uxs.length dx, .slice Bm ums.length dm] 26)
        have b3 := b2.alloc (.cells #[.int .i64 ug, .int .i64 ub, .int .i64 up, .int .i64 uq, .slice Bx uxs.length dx, .slice Bm ums.length dm] 26)
        have r3 := r2.alloc (.cells #[.int .i64 ug, .int .i64 ub, .int .i64 up, .int .i64 uq, .slice Bx uxs.length dx, .slice Bm ums.length dm] 26)
        have hx3 := hx2.alloc (.cells #[.int .i64 ug, .int .i64 ub, .int .i64 up, .int .i64 uq, .slice Bx uxs.length dx, .slice Bm ums.length dm] 26)
        change Code.wp _ _ _ _ (w2.alloc (.cells #[.int .i64 ug, .int .i64 ub, .int .i64 up, .int .i64 uq, .slice Bx uxs.length dx, .slice Bm ums.length dm] 26))
        generalize w2.alloc (.cells #[.int .i64 ug, .int .i64 ub, .int .i64 up, .int .i64 uq, .slice Bx uxs.length dx, .slice Bm ums.length dm] 26) = w3 at *
        refine wp_region_plan (.t 0 (.t 2 (.c 1 (.c 3 (.c 4 (.c 5 (.t 6 .e))))))) (fun w' => (w'.cell? ⟨w.heap.size, 0, none⟩ = some (.slice A 64 c) ∧ w'.cell? ⟨w.heap.size, 1, none⟩ = some (.slice A2 n2 c2)) ∧ (w'.cell? ⟨gS, 0, none⟩ = some (.int .i64 g) ∧ w'.cell? ⟨gS, 1, none⟩ = some (.int .i64 b) ∧ w'.cell? ⟨gS, 2, none⟩ = some (.int .i64 p) ∧ w'.cell? ⟨gS, 3, none⟩ = some (.int .i64 t) ∧ w'.cell? ⟨gS, 4, none⟩ = some (.slice Ax xs.length cx) ∧ w'.cell? ⟨gS, 5, none⟩ = some (.slice Am ms.length cm))) (by kernel_rfl) (by kernel_rfl) rfl (by kernel_rfl) (fun _ _ d _ _ h => by cases d <;> exact h) (by exact ⟨⟨e3.c0, e3.c1⟩, b3.d6⟩) ?_
        simp only [psOf, List.getD_cons_zero, List.getD_cons_succ]
        repeat (first | (refine HP.take (v := ?_) (by rfl) ?_ ?_; rotate_left; (· (intro w hSw; (try dsimp only at hSw); go_simp; try with_reducible rfl)); (try simp only [Act.put, List.setIfInBounds_toArray, List.set_cons_zero, List.set_cons_succ])) | (refine HP.skip (by rfl) ?_; (try simp only [Act.put, List.setIfInBounds_toArray, List.set_cons_zero, List.set_cons_succ])))
        refine HP.call ?_
        refine CallStep.mk (by rfl) (fun K hK => ?_)
        go_simp
        refine (l01Flush_c A A2 c n2 c2 B ss ws _ (h.below hx3.drew hB) (h2.below hx3.drew hB) (Nat.le_trans hB hx3.drew.size) (by omega) HWo.out).mono ?_; rintro e w4 ⟨A5, n5, c5, A6, n6, c6, rfl, hS5, hW5, hnx4⟩; obtain rfl : n5 = 64 := (by rw [← hS5.1, settleTo_len]; exact HL64.out); obtain rfl : n6 = 0 := hW5.1.symm; have e4 := e3.nx (Nx.drew_r hnx4); have b4 := b3.nx (Nx.drew_r hnx4); have r4 := r3.nx (Nx.drew_r hnx4); have hx4 := hx3.trans (Nx.drew_r hnx4)
        go_wp2_with fail
        refine hK.out _ _ (by exact ⟨⟨e4.c0, e4.c1⟩, b4.d6⟩) ?_
        clear hK K
        try simp only [Act.put, List.setIfInBounds_toArray, List.set_cons_zero, List.set_cons_succ]
        refine HP.call ?_
        refine CallStep.mk (by rfl) (fun K hK => ?_)
        go_simp
        refine (l04Put_c A5 A6 64 c5 0 c6 _ _ [] g b p t Ax Am cx cm xs ms _ hS5.strs hW5.wrs ((hs.below hx4 hB).more (Nat.le_trans hB hx4.size)) ((hmk.below hx4 hB).more (Nat.le_trans hB hx4.size)) (Nat.le_refl _) (by omega) (by omega) (by omega) HF0.out HF1.out _ _ HUF.out HOK.out).mono ?_; rintro e w5 ⟨A7, n7, c7, rfl, hW7, hnx5⟩; obtain rfl : n7 = 1 := hW7.1.symm; have hS7 := hS5.nx hnx5; have e5 := e4.nx hnx5; have b5 := b4.nx hnx5; have r5 := r4.nx hnx5; have hx5 := hx4.trans hnx5
        go_wp2_with fail
        refine hK.out _ _ (by exact ⟨⟨e5.c0, e5.c1⟩, b5.d6⟩) ?_
        clear hK K
        try simp only [Act.put, List.setIfInBounds_toArray, List.set_cons_zero, List.set_cons_succ]
        refine HP.call ?_
        refine CallStep.mk (by rfl) (fun K hK => ?_)
        go_simp
        refine (l01Flush_c A5 A7 c5 1 c7 _ _ _ _ hS7.strs hW7.wrs (Nat.le_refl _) (by omega) HWn.out).mono ?_; rintro e w6 ⟨A8, n8, c8, A9, n9, c9, rfl, hS8, hW8, hnx6⟩; have hlt9 : gD < w5.heap.size := r5.lt; have e6 := e5.nx hnx6; have b6 := b5.nx hnx6; have r6 := r5.nx hnx6; have hx6 := hx5.trans hnx6; have m0 := r6.c0; have m1 := r6.c1; have mf0 := r6.frozen 0; have mf1 := r6.frozen 1; have mlt := r6.lt
        go_wp2_with fail
        refine hK.out _ _ (by exact ⟨⟨e6.c0, e6.c1⟩, b6.d6⟩) ?_
        clear hK K
        try simp only [Act.put, List.setIfInBounds_toArray, List.set_cons_zero, List.set_cons_succ]
        refine HP.call ?_
        refine CallStep.mk (by rfl) (fun K hK => ?_)
        go_simp
        refine hK.out _ _ (by exact ⟨⟨((e6.far (p := ⟨gD, 0, none⟩) hneE _).far (p := ⟨gD, 1, none⟩) hneE _).c0, ((e6.far (p := ⟨gD, 0, none⟩) hneE _).far (p := ⟨gD, 1, none⟩) hneE _).c1⟩, ((b6.far (p := ⟨gD, 0, none⟩) hneS _).far (p := ⟨gD, 1, none⟩) hneS _).d6⟩) ?_
        clear hK K
        try simp only [Act.put, List.setIfInBounds_toArray, List.set_cons_zero, List.set_cons_succ]
        repeat (first | (refine HP.take (v := ?_) (by rfl) ?_ ?_; rotate_left; (· (intro w hSw; (try dsimp only at hSw); go_simp; try with_reducible rfl)); (try simp only [Act.put, List.setIfInBounds_toArray, List.set_cons_zero, List.set_cons_succ])) | (refine HP.skip (by rfl) ?_; (try simp only [Act.put, List.setIfInBounds_toArray, List.set_cons_zero, List.set_cons_succ])))
        refine HP.done ?_
        clear m0 m1 mf0 mf1
        go_wp2
        have rq := ((r6.set0 (.slice A8 n8 c8)).set1 (.slice A9 n9 c9))
        have hnf := ((hx6.setCell (p := ⟨gD, 0, none⟩) hgD (.slice A8 n8 c8)).setCell (p := ⟨gD, 1, none⟩) hgD (.slice A9 n9 c9))
        have hSf := ((hS8.far (p := ⟨gD, 0, none⟩) hlt9 (.slice A8 n8 c8)).far (p := ⟨gD, 1, none⟩) hlt9 (.slice A9 n9 c9))
        have hWf := ((hW8.far (p := ⟨gD, 0, none⟩) hlt9 (.slice A8 n8 c8)).far (p := ⟨gD, 1, none⟩) hlt9 (.slice A9 n9 c9))
        change bodyPost _ _ _ _ _ ((w6.setCell ⟨gD, 0, none⟩ (.slice A8 n8 c8)).setCell ⟨gD, 1, none⟩ (.slice A9 n9 c9))
        generalize ((w6.setCell ⟨gD, 0, none⟩ (.slice A8 n8 c8)).setCell ⟨gD, 1, none⟩ (.slice A9 n9 c9)) = Wf at *
        have q0 := rq.c0
        have q1 := rq.c1
        exact bodyPost_ret (v := .tuple #[.agg #[.slice A8 n8 c8, .slice A9 n9 c9], .int .i64 0]) (by simp [results, Tryz.results13, go_sem, q0, q1]) rfl (RetDiskCode.mk (HPh.out.trans (by rw [h2.1]; rfl)) (hSf.low (by omega)) (hWf.low (by omega)) hnf)
end Go.Proofs.YteckhdkghfidiaaGreatDoor
/- Contract of the program's withSuper. Conditions: the disk and the super can be read and are right; the package's errors are known; the library's variables MaxLen and errorType and its table of powers of ten too. -/
namespace Go.Proofs.YteckhdkghfidiaaGreatDoor
set_option linter.unusedVariables false
set_option maxRecDepth 100000
open Go.RowKit

def RetWS (w : World) (ss : List ByteArray) (ws : List (Int × ByteArray)) (b p t : Int) (xs : List Int) (ms : List Mrk) (o : Option (U6 × Int)) (e : Ending) (w' : World) : Prop :=
  Nx w w' ∧ (o = none → e = .returned (.tuple #[.agg #[.slice none 0 0, .slice none 0 0], slE 1 19])) ∧ (∀ u s, o = some (u, s) → u.1 = 999999 → e = .returned (.tuple #[.agg #[.slice none 0 0, .slice none 0 0], slE s 7])) ∧
  ∀ u s, o = some (u, s) → u.1 ≠ 999999 → ∃ A n c A2 n2 c2, e = .returned (.tuple #[.agg #[.slice A n c, .slice A2 n2 c2], .nilIface]) ∧ SlS w' w.heap.size A n (settleTo kpAll ss ws ws.length) ∧ SlW w' w.heap.size A2 n2 ([] ++ [(1 - s, nxtS u b p t xs ms)])
section
variable {w w' : World} {ss : List ByteArray} {ws : List (Int × ByteArray)} {b p t : Int} {xs : List Int} {ms : List Mrk} {o : Option (U6 × Int)} {u : U6} {s : Int}
theorem RetWS.no (h : o = none) (hn : Nx w w') : RetWS w ss ws b p t xs ms o (.returned (.tuple #[.agg #[.slice none 0 0, .slice none 0 0], slE 1 19])) w' :=
  ⟨hn, (fun _ => rfl), (fun u s h2 => by rw [h] at h2; cases h2), fun u s h2 => by rw [h] at h2; cases h2⟩
theorem RetWS.full (h : o = some (u, s)) (h9 : u.1 = 999999) (hn : Nx w w') : RetWS w ss ws b p t xs ms o (.returned (.tuple #[.agg #[.slice none 0 0, .slice none 0 0], slE s 7])) w' :=
  ⟨hn, (fun h2 => by rw [h] at h2; cases h2), (fun u' s' h2 _ => by rw [h] at h2; cases h2; rfl), fun u' s' h2 h3 => by rw [h] at h2; cases h2; exact absurd h9 h3⟩
theorem RetWS.yes {A A2 : Option Addr} {n c n2 c2 : Nat} {R1 : List ByteArray} (h : o = some (u, s)) (h9 : u.1 ≠ 999999 ∧ R1 = settleTo kpAll ss ws ws.length) (hS : SlS w' w.heap.size A n R1) (hW : SlW w' w.heap.size A2 n2 ([] ++ [(1 - s, nxtS u b p t xs ms)])) (hn : Nx w w') :
    RetWS w ss ws b p t xs ms o (.returned (.tuple #[.agg #[.slice A n c, .slice A2 n2 c2], .nilIface])) w' :=
  ⟨hn, (fun h2 => by rw [h] at h2; cases h2), (fun u' s' h2 h3 => by rw [h] at h2; cases h2; exact absurd h3 h9.1), fun u' s' h2 _ => by rw [h] at h2; cases h2; rw [h9.2] at hS; exact ⟨A, n, c, A2, n2, c2, rfl, hS, hW⟩⟩
end
set_option maxHeartbeats 1600000 in
theorem withSuper_c (A A2 : Option Addr) (n c n2 c2 B : Nat) (ss : List ByteArray) (ws : List (Int × ByteArray)) (g b p t : Int) (Ax Am : Option Addr) (cx cm : Nat) (xs : List Int) (ms : List Mrk) (w : World) (a0 a1 : Addr) (h : Strs w B A n ss) (h2 : Wrs w B A2 n2 ws) (hs : Ins w B Ax xs) (hmk : Mks w B Am ms) (hB : B ≤ w.heap.size) (hD : diskB ss ws = true) (hO : superB g b p t xs ms = true)
    (hE : Er w a0 a1) (hM : Mx w) (hEt : Et w) (hT : Tab w) :
    Calls Tryz.prog 41 #[.agg #[.slice A n c, .slice A2 n2 c2], .agg #[.int .i64 g, .int .i64 b, .int .i64 p, .int .i64 t, .slice Ax xs.length cx, .slice Am ms.length cm]] w (RetWS w ss ws b p t xs ms (newU (rdU (readP ss ws 0)) (rdU (readP ss ws 1)))) := by
  have HD := Lib.hid hD
  have HO := Lib.hid hO
  clear hD hO
  obtain rfl : n = 64 := by rw [← h.1]; exact (diskB_len64 HD.out).1
  have HL64 := Lib.hid (diskB_len64 HD.out).1
  have hn80 : n2 ≤ 80 := by rw [← h2.1]; exact (diskB_len64 HD.out).2.1
  have HWo := Lib.hid (diskB_len64 HD.out).2.2.2
  have e0 : Box (((w.alloc (.cells #[.slice A 64 c, .slice A2 n2 c2] 35)).alloc (.cells #[.int .i64 g, .int .i64 b, .int .i64 p, .int .i64 t, .slice Ax xs.length cx, .slice Am ms.length cm] 26)).alloc (.cells #[.slice none 0 0, .slice none 0 0] 35)) w.heap.size 35 #[.slice A 64 c, .slice A2 n2 c2] := ((Box.new w _ _).alloc _).alloc _
  have b0 : Box (((w.alloc (.cells #[.slice A 64 c, .slice A2 n2 c2] 35)).alloc (.cells #[.int .i64 g, .int .i64 b, .int .i64 p, .int .i64 t, .slice Ax xs.length cx, .slice Am ms.length cm] 26)).alloc (.cells #[.slice none 0 0, .slice none 0 0] 35)) (w.heap.size + 1) 26 #[.int .i64 g, .int .i64 b, .int .i64 p, .int .i64 t, .slice Ax xs.length cx, .slice Am ms.length cm] := by have := (Box.new (w.alloc (.cells #[.slice A 64 c, .slice A2 n2 c2] 35)) 26 #[.int .i64 g, .int .i64 b, .int .i64 p, .int .i64 t, .slice Ax xs.length cx, .slice Am ms.length cm]).alloc (.cells #[.slice none 0 0, .slice none 0 0] 35); rwa [World.size_alloc] at this
  have r0 : Box (((w.alloc (.cells #[.slice A 64 c, .slice A2 n2 c2] 35)).alloc (.cells #[.int .i64 g, .int .i64 b, .int .i64 p, .int .i64 t, .slice Ax xs.length cx, .slice Am ms.length cm] 26)).alloc (.cells #[.slice none 0 0, .slice none 0 0] 35)) (w.heap.size + 1 + 1) 35 #[.slice none 0 0, .slice none 0 0] := by have := Box.new ((w.alloc (.cells #[.slice A 64 c, .slice A2 n2 c2] 35)).alloc (.cells #[.int .i64 g, .int .i64 b, .int .i64 p, .int .i64 t, .slice Ax xs.length cx, .slice Am ms.length cm] 26)) 35 #[.slice none 0 0, .slice none 0 0]; rwa [World.size_alloc, World.size_alloc] at this
  have hx0 := (((Nx.refl w).alloc (.cells #[.slice A 64 c, .slice A2 n2 c2] 35)).alloc (.cells #[.int .i64 g, .int .i64 b, .int .i64 p, .int .i64 t, .slice Ax xs.length cx, .slice Am ms.length cm] 26)).alloc (.cells #[.slice none 0 0, .slice none 0 0] 35)
  go_enter Tryz.func41, Tryz.ntmps41
  go_wp2_with fail
  generalize (((w.alloc (.cells #[.slice A 64 c, .slice A2 n2 c2] 35)).alloc (.cells #[.int .i64 g, .int .i64 b, .int .i64 p, .int .i64 t, .slice Ax xs.length cx, .slice Am ms.length cm] 26)).alloc (.cells #[.slice none 0 0, .slice none 0 0] 35)) = W at *
  obtain ⟨gS, HgS⟩ : ∃ g, Hid (w.heap.size + 1 = g) := ⟨_, rfl⟩
  obtain ⟨gD, HgD⟩ : ∃ g, Hid (w.heap.size + 1 + 1 = g) := ⟨_, rfl⟩
  have hgS : w.heap.size ≤ gS := by have := HgS.out; omega
  have hgD : w.heap.size ≤ gD := by have := HgD.out; omega
  have hneE : w.heap.size ≠ gD := by have := HgD.out; omega
  have hneE2 : w.heap.size ≠ gS := by have := HgS.out; omega
  have hneS : gS ≠ gD := by have := HgS.out; have := HgD.out; omega
  rw [HgD.out, HgS.out]
  rw [HgS.out] at b0
  rw [HgD.out] at r0
  refine (newestSuper_c A A2 64 c n2 c2 B ss ws _ a0 a1 (h.below hx0 hB) (h2.below hx0 hB) (Nat.le_trans hB hx0.size) (by omega) (by omega) (by omega) (by have := readP_size HD.out 0; omega) (by have := readP_size HD.out 1; omega) (hE.nx hx0) (hM.nx hx0) (hEt.nx hx0)).mono ?_
  rintro e w2 ⟨hnx2, h1', h3⟩
  have e2 := e0.nx hnx2
  have b2 := b0.nx hnx2
  have r2 := r0.nx hnx2
  have hx2 := hx0.trans hnx2
  clear e0 b0 r0 hx0 hnx2
  cases hu : newU (rdU (readP ss ws 0)) (rdU (readP ss ws 1)) with
  | none =>
    have he := h1' hu
    unfold slE at he
    subst he
    have HU := Lib.hid hu
    clear h1' h3 hu
    have m0 := r2.c0
    have m1 := r2.c1
    have mf0 := r2.frozen 0
    have mf1 := r2.frozen 1
    have mlt := r2.lt
    go_wp2
    have rq := ((r2.set0 (.slice none 0 0)).set1 (.slice none 0 0))
    have hnf := ((hx2.setCell (p := ⟨gD, 0, none⟩) hgD (.slice none 0 0)).setCell (p := ⟨gD, 1, none⟩) hgD (.slice none 0 0))
    replace rq := rq.alloc (.cells #[.int .i64 0, .int .i64 0, .int .i64 0, .int .i64 0, .slice none 0 0, .slice none 0 0] 26)
    replace hnf := hnf.alloc (.cells #[.int .i64 0, .int .i64 0, .int .i64 0, .int .i64 0, .slice none 0 0, .slice none 0 0] 26)
    change bodyPost _ _ _ _ _ (World.alloc ((w2.setCell ⟨gD, 0, none⟩ (.slice none 0 0)).setCell ⟨gD, 1, none⟩ (.slice none 0 0)) (.cells #[.int .i64 0, .int .i64 0, .int .i64 0, .int .i64 0, .slice none 0 0, .slice none 0 0] 26))
    generalize (World.alloc ((w2.setCell ⟨gD, 0, none⟩ (.slice none 0 0)).setCell ⟨gD, 1, none⟩ (.slice none 0 0)) (.cells #[.int .i64 0, .int .i64 0, .int .i64 0, .int .i64 0, .slice none 0 0, .slice none 0 0] 26)) = Wf at *
    have q0 := rq.c0
    have q1 := rq.c1
    exact bodyPost_ret (v := .tuple #[.agg #[.slice none 0 0, .slice none 0 0], .iface 125 (.agg #[.int .i64 1, .int .i64 19])]) (by simp [results, Tryz.results41, go_sem, q0, q1]) rfl (RetWS.no HU.out hnf)
  | some us =>
    obtain ⟨u, s⟩ := us
    have hsl := newU_slot hu
    have hgn := newU_gen rfl rfl hu
    obtain ⟨Bx, dx, Bm, dm, he, hfit⟩ := h3 u s hu
    have HU := Lib.hid hu
    clear h1' h3 hfit hu
    by_cases h9 : u.1 = 999999
    · have H9 := Lib.hid h9
      obtain ⟨ug, ub, up, uq, uxs, ums⟩ := u
      have h9' : (ug == 999999) = true := beq_iff_eq.2 h9
      replace he : e = .returned (.tuple #[.agg #[.int .i64 ug, .int .i64 ub, .int .i64 up, .int .i64 uq, .slice Bx uxs.length dx, .slice Bm ums.length dm], .int .i64 s, .nilIface]) := he
      subst he
      clear h9
      have m0 := r2.c0
      have m1 := r2.c1
      have mf0 := r2.frozen 0
      have mf1 := r2.frozen 1
      have mlt := r2.lt
      go_wp2
      have rq := ((r2.set0 (.slice none 0 0)).set1 (.slice none 0 0))
      have hnf := ((hx2.setCell (p := ⟨gD, 0, none⟩) hgD (.slice none 0 0)).setCell (p := ⟨gD, 1, none⟩) hgD (.slice none 0 0))
      replace rq := rq.alloc (.cells #[.int .i64 ug, .int .i64 ub, .int .i64 up, .int .i64 uq, .slice Bx uxs.length dx, .slice Bm ums.length dm] 26)
      replace hnf := hnf.alloc (.cells #[.int .i64 ug, .int .i64 ub, .int .i64 up, .int .i64 uq, .slice Bx uxs.length dx, .slice Bm ums.length dm] 26)
      change bodyPost _ _ _ _ _ (World.alloc ((w2.setCell ⟨gD, 0, none⟩ (.slice none 0 0)).setCell ⟨gD, 1, none⟩ (.slice none 0 0)) (.cells #[.int .i64 ug, .int .i64 ub, .int .i64 up, .int .i64 uq, .slice Bx uxs.length dx, .slice Bm ums.length dm] 26))
      generalize (World.alloc ((w2.setCell ⟨gD, 0, none⟩ (.slice none 0 0)).setCell ⟨gD, 1, none⟩ (.slice none 0 0)) (.cells #[.int .i64 ug, .int .i64 ub, .int .i64 up, .int .i64 uq, .slice Bx uxs.length dx, .slice Bm ums.length dm] 26)) = Wf at *
      have q0 := rq.c0
      have q1 := rq.c1
      exact bodyPost_ret (v := .tuple #[.agg #[.slice none 0 0, .slice none 0 0], .iface 125 (.agg #[.int .i64 s, .int .i64 7])]) (by simp [results, Tryz.results41, go_sem, q0, q1]) rfl (RetWS.full HU.out H9.out hnf)
    · have H9 : Hid (u.1 ≠ 999999 ∧ settleTo kpAll ss ws n2 = settleTo kpAll ss ws ws.length) := Lib.hid ⟨h9, by rw [h2.1]⟩
      have HOK' := Lib.hid (nxt_super HO.out hgn h9)
      obtain ⟨ug, ub, up, uq, uxs, ums⟩ := u
      have HOK : Hid (superB (ug + 1) b p t xs ms = true) := HOK'
      replace hgn : 1 ≤ ug ∧ ug ≤ 999999 := hgn
      have h9' : (ug == 999999) = false := beq_eq_false_iff_ne.2 h9
      replace he : e = .returned (.tuple #[.agg #[.int .i64 ug, .int .i64 ub, .int .i64 up, .int .i64 uq, .slice Bx uxs.length dx, .slice Bm ums.length dm], .int .i64 s, .nilIface]) := he
      subst he
      clear h9
      obtain ⟨y0, y1, y2, y3, y4, y5⟩ := b2.d6
      have yf := b2.frozen 0
      have ylt := b2.lt
      go_wp2_with fail
      have e3 := (e2.far (p := ⟨gS, 0, none⟩) hneE2 (.int .i64 (ug + 1))).alloc (.cells #[.int .i64 ug, .int .i64 ub, .int .i64 up, .int .i64 uq, .slice Bx uxs.length dx, .slice Bm ums.length dm] 26)
      have b3 := (b2.set 0 (.int .i64 (ug + 1))).alloc (.cells #[.int .i64 ug, .int .i64 ub, .int .i64 up, .int .i64 uq, .slice Bx uxs.length dx, .slice Bm ums.length dm] 26)
      have r3 := (r2.far (p := ⟨gS, 0, none⟩) hneS.symm (.int .i64 (ug + 1))).alloc (.cells #[.int .i64 ug, .int .i64 ub, .int .i64 up, .int .i64 uq, .slice Bx uxs.length dx, .slice Bm ums.length dm] 26)
      have hx3 := (hx2.setCell (p := ⟨gS, 0, none⟩) hgS (.int .i64 (ug + 1))).alloc (.cells #[.int .i64 ug, .int .i64 ub, .int .i64 up, .int .i64 uq, .slice Bx uxs.length dx, .slice Bm ums.length dm] 26)
      simp only [List.setIfInBounds_toArray, List.set_cons_zero] at b3
      clear y0 y1 y2 y3 y4 y5 yf ylt e2 b2 r2 hx2
      generalize (w2.setCell ⟨gS, 0, none⟩ (.int .i64 (ug + 1))).alloc (.cells #[.int .i64 ug, .int .i64 ub, .int .i64 up, .int .i64 uq, .slice Bx uxs.length dx, .slice Bm ums.length dm] 26) = w3 at *
      refine wp_region_plan (.t 0 (.t 2 (.t 4 (.c 1 (.c 3 (.c 5 (.c 6 (.c 7 (.t 8 .e))))))))) (fun w' => (w'.cell? ⟨w.heap.size, 0, none⟩ = some (.slice A 64 c) ∧ w'.cell? ⟨w.heap.size, 1, none⟩ = some (.slice A2 n2 c2)) ∧ (w'.cell? ⟨gS, 0, none⟩ = some (.int .i64 (ug + 1)) ∧ w'.cell? ⟨gS, 1, none⟩ = some (.int .i64 b) ∧ w'.cell? ⟨gS, 2, none⟩ = some (.int .i64 p) ∧ w'.cell? ⟨gS, 3, none⟩ = some (.int .i64 t) ∧ w'.cell? ⟨gS, 4, none⟩ = some (.slice Ax xs.length cx) ∧ w'.cell? ⟨gS, 5, none⟩ = some (.slice Am ms.length cm))) (by kernel_rfl) (by kernel_rfl) rfl (by kernel_rfl) (fun _ _ d _ _ h => by cases d <;> exact h) (by exact ⟨⟨e3.c0, e3.c1⟩, b3.d6⟩) ?_
      simp only [psOf, List.getD_cons_zero, List.getD_cons_succ]
      repeat (first | (refine HP.take (v := ?_) (by rfl) ?_ ?_; rotate_left; (· (intro w hSw; (try dsimp only at hSw); go_simp; try with_reducible rfl)); (try simp only [Act.put, List.setIfInBounds_toArray, List.set_cons_zero, List.set_cons_succ])) | (refine HP.skip (by rfl) ?_; (try simp only [Act.put, List.setIfInBounds_toArray, List.set_cons_zero, List.set_cons_succ])))
      refine HP.call ?_
      refine CallStep.mk (by rfl) (fun K hK => ?_)
      go_simp
      refine (flushed_c A A2 c n2 c2 B ss ws _ (h.below hx3.drew hB) (h2.below hx3.drew hB) (Nat.le_trans hB hx3.drew.size) (by omega) HWo.out).mono ?_; rintro e w5 ⟨A5, n5, c5, A6, n6, c6, rfl, hSF, hWF, hny5⟩; obtain rfl : n5 = 64 := (by rw [← hSF.1, settleTo_len]; exact HL64.out); obtain rfl : n6 = 0 := hWF.1.symm; have e5 := e3.nx (Nx.drew_r hny5); have b5 := b3.nx (Nx.drew_r hny5); have r5 := r3.nx (Nx.drew_r hny5); have hx5 := hx3.trans (Nx.drew_r hny5)
      go_wp2_with fail
      refine hK.out _ _ (by exact ⟨⟨e5.c0, e5.c1⟩, b5.d6⟩) ?_
      clear hK K
      try simp only [Act.put, List.setIfInBounds_toArray, List.set_cons_zero, List.set_cons_succ]
      refine HP.call ?_
      refine CallStep.mk (by rfl) (fun K hK => ?_)
      go_simp
      refine (otherSlot_c s _ (by rcases hsl with rfl | rfl <;> omega) (by rcases hsl with rfl | rfl <;> omega)).mono ?_; rintro e w6 ⟨rfl, hq6⟩; have hny6 : Nx w5 w6 := hq6 ▸ Nx.refl _; have e6 := e5.nx hny6; have b6 := b5.nx hny6; have r6 := r5.nx hny6; have hx6 := hx5.trans hny6; have hSF := hSF.nx hny6; have hWF := hWF.nx hny6; clear hq6
      go_wp2_with fail
      refine hK.out _ _ (by exact ⟨⟨e6.c0, e6.c1⟩, b6.d6⟩) ?_
      clear hK K
      try simp only [Act.put, List.setIfInBounds_toArray, List.set_cons_zero, List.set_cons_succ]
      refine HP.call ?_
      refine CallStep.mk (by rfl) (fun K hK => ?_)
      go_simp
      refine (superText_c (ug + 1) b p t Ax Am cx cm B xs ms _ (hs.below hx6 hB) (hmk.below hx6 hB) (Nat.le_trans hB hx6.size) HOK.out (hT.nx hx6)).mono ?_; rintro e w7 ⟨rfl, hny7⟩; have e7 := e6.nx hny7; have b7 := b6.nx hny7; have r7 := r6.nx hny7; have hx7 := hx6.trans hny7; have hSF := hSF.nx hny7; have hWF := hWF.nx hny7
      go_wp2_with fail
      refine hK.out _ _ (by exact ⟨⟨e7.c0, e7.c1⟩, b7.d6⟩) ?_
      clear hK K
      try simp only [Act.put, List.setIfInBounds_toArray, List.set_cons_zero, List.set_cons_succ]
      refine HP.call ?_
      refine CallStep.mk (by rfl) (fun K hK => ?_)
      go_simp
      refine (written_c A5 A6 64 c5 0 c6 _ _ [] (1 - s) _ _ hSF.strs hWF.wrs (Nat.le_refl _) (by omega) (by omega)).mono ?_; rintro e w8 ⟨A8, n8, c8, A9, n9, c9, rfl, hS8, hW8, hny8⟩; have hlt9 : gD < w7.heap.size := r7.lt; have e8 := e7.nx hny8; have b8 := b7.nx hny8; have r8 := r7.nx hny8; have hx8 := hx7.trans hny8
      go_wp2_with fail
      refine hK.out _ _ (by exact ⟨⟨e8.c0, e8.c1⟩, b8.d6⟩) ?_
      clear hK K
      try simp only [Act.put, List.setIfInBounds_toArray, List.set_cons_zero, List.set_cons_succ]
      have m0 := r8.c0
      have m1 := r8.c1
      have mf0 := r8.frozen 0
      have mf1 := r8.frozen 1
      have mlt := r8.lt
      refine HP.call ?_
      refine CallStep.mk (by rfl) (fun K hK => ?_)
      go_simp
      refine hK.out _ _ (by exact ⟨⟨((e8.far (p := ⟨gD, 0, none⟩) hneE _).far (p := ⟨gD, 1, none⟩) hneE _).c0, ((e8.far (p := ⟨gD, 0, none⟩) hneE _).far (p := ⟨gD, 1, none⟩) hneE _).c1⟩, ((b8.far (p := ⟨gD, 0, none⟩) hneS _).far (p := ⟨gD, 1, none⟩) hneS _).d6⟩) ?_
      clear hK K
      try simp only [Act.put, List.setIfInBounds_toArray, List.set_cons_zero, List.set_cons_succ]
      repeat (first | (refine HP.take (v := ?_) (by rfl) ?_ ?_; rotate_left; (· (intro w hSw; (try dsimp only at hSw); go_simp; try with_reducible rfl)); (try simp only [Act.put, List.setIfInBounds_toArray, List.set_cons_zero, List.set_cons_succ])) | (refine HP.skip (by rfl) ?_; (try simp only [Act.put, List.setIfInBounds_toArray, List.set_cons_zero, List.set_cons_succ])))
      refine HP.done ?_
      clear m0 m1 mf0 mf1
      go_wp2
      have rq := ((r8.set0 (.slice A8 n8 c8)).set1 (.slice A9 n9 c9))
      have hnf := ((hx8.setCell (p := ⟨gD, 0, none⟩) hgD (.slice A8 n8 c8)).setCell (p := ⟨gD, 1, none⟩) hgD (.slice A9 n9 c9))
      have hSf := ((hS8.far (p := ⟨gD, 0, none⟩) hlt9 (.slice A8 n8 c8)).far (p := ⟨gD, 1, none⟩) hlt9 (.slice A9 n9 c9))
      have hWf := ((hW8.far (p := ⟨gD, 0, none⟩) hlt9 (.slice A8 n8 c8)).far (p := ⟨gD, 1, none⟩) hlt9 (.slice A9 n9 c9))
      change bodyPost _ _ _ _ _ ((w8.setCell ⟨gD, 0, none⟩ (.slice A8 n8 c8)).setCell ⟨gD, 1, none⟩ (.slice A9 n9 c9))
      generalize ((w8.setCell ⟨gD, 0, none⟩ (.slice A8 n8 c8)).setCell ⟨gD, 1, none⟩ (.slice A9 n9 c9)) = Wf at *
      have q0 := rq.c0
      have q1 := rq.c1
      exact bodyPost_ret (v := .tuple #[.agg #[.slice A8 n8 c8, .slice A9 n9 c9], .nilIface]) (by simp [results, Tryz.results41, go_sem, q0, q1]) rfl (RetWS.yes HU.out H9.out (hSf.low (by omega)) (hWf.low (by omega)) hnf)
end Go.Proofs.YteckhdkghfidiaaGreatDoor
/- Contract of the program's CommitSuper. Conditions: the disk and the super can be read, and hold at most 1048576 elements of a kind; the package's errors are known; the library's variables MaxLen and errorType and its table of powers of ten too. -/
namespace Go.Proofs.YteckhdkghfidiaaGreatDoor
set_option linter.unusedVariables false
set_option maxRecDepth 100000
open Go.RowKit

set_option maxHeartbeats 1600000 in
theorem implCommitSuper_c (A A2 : Option Addr) (n c n2 c2 B : Nat) (ss : List ByteArray) (ws : List (Int × ByteArray)) (g b p t : Int) (Ax Am : Option Addr) (cx cm : Nat) (xs : List Int) (ms : List Mrk) (w : World) (a0 a1 : Addr) (h : Strs w B A n ss) (h2 : Wrs w B A2 n2 ws) (hs : Ins w B Ax xs) (hmk : Mks w B Am ms) (hB : B ≤ w.heap.size) (hn : n ≤ 1048576) (hn2 : n2 ≤ 1048576) (hx : xs.length ≤ 1048576) (hms : ms.length ≤ 1048576) (hcx : xs.length ≤ cx) (hAm : AllM ms)
    (hE : Er w a0 a1) (hM : Mx w) (hEt : Et w) (hT : Tab w) :
    Calls Tryz.prog 12 #[.agg #[.slice A n c, .slice A2 n2 c2], .agg #[.int .i64 g, .int .i64 b, .int .i64 p, .int .i64 t, .slice Ax xs.length cx, .slice Am ms.length cm]] w (RetDiskCode w (cmP ss ws g b p t xs ms).1.1 (cmP ss ws g b p t xs ms).1.2 (cmP ss ws g b p t xs ms).2) := by
  have e0 : Box (((w.alloc (.cells #[.slice A n c, .slice A2 n2 c2] 35)).alloc (.cells #[.int .i64 g, .int .i64 b, .int .i64 p, .int .i64 t, .slice Ax xs.length cx, .slice Am ms.length cm] 26)).alloc (.cells #[.slice none 0 0, .slice none 0 0] 35)) w.heap.size 35 #[.slice A n c, .slice A2 n2 c2] := ((Box.new w _ _).alloc _).alloc _
  have b0 : Box (((w.alloc (.cells #[.slice A n c, .slice A2 n2 c2] 35)).alloc (.cells #[.int .i64 g, .int .i64 b, .int .i64 p, .int .i64 t, .slice Ax xs.length cx, .slice Am ms.length cm] 26)).alloc (.cells #[.slice none 0 0, .slice none 0 0] 35)) (w.heap.size + 1) 26 #[.int .i64 g, .int .i64 b, .int .i64 p, .int .i64 t, .slice Ax xs.length cx, .slice Am ms.length cm] := by have := (Box.new (w.alloc (.cells #[.slice A n c, .slice A2 n2 c2] 35)) 26 #[.int .i64 g, .int .i64 b, .int .i64 p, .int .i64 t, .slice Ax xs.length cx, .slice Am ms.length cm]).alloc (.cells #[.slice none 0 0, .slice none 0 0] 35); rwa [World.size_alloc] at this
  have r0 : Box (((w.alloc (.cells #[.slice A n c, .slice A2 n2 c2] 35)).alloc (.cells #[.int .i64 g, .int .i64 b, .int .i64 p, .int .i64 t, .slice Ax xs.length cx, .slice Am ms.length cm] 26)).alloc (.cells #[.slice none 0 0, .slice none 0 0] 35)) (w.heap.size + 1 + 1) 35 #[.slice none 0 0, .slice none 0 0] := by have := Box.new ((w.alloc (.cells #[.slice A n c, .slice A2 n2 c2] 35)).alloc (.cells #[.int .i64 g, .int .i64 b, .int .i64 p, .int .i64 t, .slice Ax xs.length cx, .slice Am ms.length cm] 26)) 35 #[.slice none 0 0, .slice none 0 0]; rwa [World.size_alloc, World.size_alloc] at this
  have hx0 := (((Nx.refl w).alloc (.cells #[.slice A n c, .slice A2 n2 c2] 35)).alloc (.cells #[.int .i64 g, .int .i64 b, .int .i64 p, .int .i64 t, .slice Ax xs.length cx, .slice Am ms.length cm] 26)).alloc (.cells #[.slice none 0 0, .slice none 0 0] 35)
  go_enter Tryz.func12, Tryz.ntmps12
  go_wp2_with fail
  generalize (((w.alloc (.cells #[.slice A n c, .slice A2 n2 c2] 35)).alloc (.cells #[.int .i64 g, .int .i64 b, .int .i64 p, .int .i64 t, .slice Ax xs.length cx, .slice Am ms.length cm] 26)).alloc (.cells #[.slice none 0 0, .slice none 0 0] 35)) = W at *
  obtain ⟨gS, HgS⟩ : ∃ g, Hid (w.heap.size + 1 = g) := ⟨_, rfl⟩
  obtain ⟨gD, HgD⟩ : ∃ g, Hid (w.heap.size + 1 + 1 = g) := ⟨_, rfl⟩
  have hgS : w.heap.size ≤ gS := by have := HgS.out; omega
  have hgD : w.heap.size ≤ gD := by have := HgD.out; omega
  have hneE : w.heap.size ≠ gD := by have := HgD.out; omega
  have hneE2 : w.heap.size ≠ gS := by have := HgS.out; omega
  have hneS : gS ≠ gD := by have := HgS.out; have := HgD.out; omega
  rw [HgD.out, HgS.out]
  rw [HgS.out] at b0
  rw [HgD.out] at r0
  refine (isRight_c A A2 n c n2 c2 B ss ws _ (h.below hx0 hB) (h2.below hx0 hB) (Nat.le_trans hB hx0.size) hn hn2).mono ?_
  rintro e w1 ⟨rfl, hnx1⟩
  have e1 := e0.nx hnx1
  have b1 := b0.nx hnx1
  have r1 := r0.nx hnx1
  have hx1 := hx0.trans hnx1
  clear e0 b0 r0 hx0 hnx1
  cases hD : diskB ss ws with
  | false =>
    have HPh := Lib.hid (cmP_bad (g := g) (b := b) (p := p) (t := t) (xs := xs) (ms := ms) (show (diskB ss ws && superB g b p t xs ms) = false by rw [hD]; rfl))
    clear hD
    have m0 := r1.c0
    have m1 := r1.c1
    have mf0 := r1.frozen 0
    have mf1 := r1.frozen 1
    have mlt := r1.lt
    go_wp2
    have rq := ((r1.set0 (.slice none 0 0)).set1 (.slice none 0 0))
    have hnf := ((hx1.setCell (p := ⟨gD, 0, none⟩) hgD (.slice none 0 0)).setCell (p := ⟨gD, 1, none⟩) hgD (.slice none 0 0))
    change bodyPost _ _ _ _ _ ((w1.setCell ⟨gD, 0, none⟩ (.slice none 0 0)).setCell ⟨gD, 1, none⟩ (.slice none 0 0))
    generalize ((w1.setCell ⟨gD, 0, none⟩ (.slice none 0 0)).setCell ⟨gD, 1, none⟩ (.slice none 0 0)) = Wf at *
    have q0 := rq.c0
    have q1 := rq.c1
    exact bodyPost_ret (v := .tuple #[.agg #[.slice none 0 0, .slice none 0 0], .int .i64 1]) (by simp [results, Tryz.results12, go_sem, q0, q1]) rfl (RetDiskCode.zero HPh.out hnf)
  | true =>
    obtain ⟨y0, y1, y2, y3, y4, y5⟩ := b1.d6
    have HD := Lib.hid hD
    clear hD
    go_wp2_with fail
    refine (superRight_c g b p t Ax Am cx cm B xs ms _ (hs.below hx1 hB) (hmk.below hx1 hB) (Nat.le_trans hB hx1.size) hx hms hcx hAm).mono ?_
    rintro e w1b ⟨rfl, hnx1b⟩
    have e1b := e1.nx hnx1b
    have b1b := b1.nx hnx1b
    have r1b := r1.nx hnx1b
    have hx1b := hx1.trans hnx1b
    clear e1 b1 r1 hx1 hnx1b y0 y1 y2 y3 y4 y5
    cases hO : superB g b p t xs ms with
    | false =>
      have HPh := Lib.hid (cmP_bad (show (diskB ss ws && superB g b p t xs ms) = false by rw [hO]; simp))
      clear hO
      have m0 := r1b.c0
      have m1 := r1b.c1
      have mf0 := r1b.frozen 0
      have mf1 := r1b.frozen 1
      have mlt := r1b.lt
      go_wp2
      have rq := ((r1b.set0 (.slice none 0 0)).set1 (.slice none 0 0))
      have hnf := ((hx1b.setCell (p := ⟨gD, 0, none⟩) hgD (.slice none 0 0)).setCell (p := ⟨gD, 1, none⟩) hgD (.slice none 0 0))
      change bodyPost _ _ _ _ _ ((w1b.setCell ⟨gD, 0, none⟩ (.slice none 0 0)).setCell ⟨gD, 1, none⟩ (.slice none 0 0))
      generalize ((w1b.setCell ⟨gD, 0, none⟩ (.slice none 0 0)).setCell ⟨gD, 1, none⟩ (.slice none 0 0)) = Wf at *
      have q0 := rq.c0
      have q1 := rq.c1
      exact bodyPost_ret (v := .tuple #[.agg #[.slice none 0 0, .slice none 0 0], .int .i64 1]) (by simp [results, Tryz.results12, go_sem, q0, q1]) rfl (RetDiskCode.zero HPh.out hnf)
    | true =>
    have HO := Lib.hid hO
    clear hO
    obtain rfl : n = 64 := by rw [← h.1]; exact (diskB_len64 HD.out).1
    obtain ⟨y0, y1, y2, y3, y4, y5⟩ := b1b.d6
    have z0 := e1b.c0
    have z1 := e1b.c1
    go_wp2_with fail
    refine (withSuper_c A A2 64 c n2 c2 B ss ws g b p t Ax Am cx cm xs ms _ a0 a1 (h.below hx1b hB) (h2.below hx1b hB) (hs.below hx1b hB) (hmk.below hx1b hB) (Nat.le_trans hB hx1b.size) HD.out HO.out (hE.nx hx1b) (hM.nx hx1b) (hEt.nx hx1b) (hT.nx hx1b)).mono ?_
    rintro e w2 ⟨hnx2, h1', h7', h3⟩
    have e2 := e1b.nx hnx2
    have b2 := b1b.nx hnx2
    have r2 := r1b.nx hnx2
    have hx2 := hx1b.trans hnx2
    have zz0 := e2.c0
    have zz1 := e2.c1
    have zlt := e2.lt
    clear e1b b1b r1b hx1b z0 z1 y0 y1 y2 y3 y4 y5
    cases hu : newU (rdU (readP ss ws 0)) (rdU (readP ss ws 1)) with
    | none =>
      have he := h1' hu
      have HPh := Lib.hid (cmP_none HD.out HO.out hu)
      clear h1' h7' h3 hu hnx2
      unfold slE at he
      subst he
      go_wp2_with fail
      have e3 := e2.alloc (.cells #[.slice none 0 0, .slice none 0 0] 35)
      have r3 := r2.alloc (.cells #[.slice none 0 0, .slice none 0 0] 35)
      have hx3 := hx2.alloc (.cells #[.slice none 0 0, .slice none 0 0] 35)
      change Calls _ _ _ (w2.alloc (.cells #[.slice none 0 0, .slice none 0 0] 35)) _
      generalize w2.alloc (.cells #[.slice none 0 0, .slice none 0 0] 35) = w3 at *
      refine (copied_c A A2 64 c n2 c2 B ss ws _ (h.below hx3 hB) (h2.below hx3 hB) (Nat.le_trans hB hx3.size) (by omega) (by omega)).mono ?_
      rintro e w4 ⟨A5, n5, c5, A6, n6, c6, rfl, hS5, hW5, hnx4⟩
      have hlt9 : gD < w3.heap.size := r3.lt
      have r4 := r3.nx hnx4
      have hx4 := hx3.trans hnx4
      go_wp2_with fail
      refine (slotCode_c 1 19 _ (hEt.nx hx4)).mono ?_
      rintro e w5 ⟨rfl, hnx5⟩
      replace hS5 := hS5.nx hnx5
      replace hW5 := hW5.nx hnx5
      have r5 := r4.nx hnx5
      have hx5 := hx4.trans hnx5
      have m0 := r5.c0
      have m1 := r5.c1
      have mf0 := r5.frozen 0
      have mf1 := r5.frozen 1
      have mlt := r5.lt
      go_wp2
      have rq := ((r5.set0 (.slice A5 n5 c5)).set1 (.slice A6 n6 c6))
      have hnf := ((hx5.setCell (p := ⟨gD, 0, none⟩) hgD (.slice A5 n5 c5)).setCell (p := ⟨gD, 1, none⟩) hgD (.slice A6 n6 c6))
      have hSf := ((hS5.far (p := ⟨gD, 0, none⟩) hlt9 (.slice A5 n5 c5)).far (p := ⟨gD, 1, none⟩) hlt9 (.slice A6 n6 c6))
      have hWf := ((hW5.far (p := ⟨gD, 0, none⟩) hlt9 (.slice A5 n5 c5)).far (p := ⟨gD, 1, none⟩) hlt9 (.slice A6 n6 c6))
      change bodyPost _ _ _ _ _ ((w5.setCell ⟨gD, 0, none⟩ (.slice A5 n5 c5)).setCell ⟨gD, 1, none⟩ (.slice A6 n6 c6))
      generalize ((w5.setCell ⟨gD, 0, none⟩ (.slice A5 n5 c5)).setCell ⟨gD, 1, none⟩ (.slice A6 n6 c6)) = Wf at *
      have q0 := rq.c0
      have q1 := rq.c1
      exact bodyPost_ret (v := .tuple #[.agg #[.slice A5 n5 c5, .slice A6 n6 c6], .int .i64 19]) (by simp [results, Tryz.results12, go_sem, q0, q1]) rfl (RetDiskCode.mk HPh.out (hSf.low (by omega)) (hWf.low (by omega)) hnf)
    | some us =>
      obtain ⟨u, s⟩ := us
      by_cases h9 : u.1 = 999999
      · have HPh := Lib.hid (cmP_full HD.out HO.out hu h9)
        have he := h7' u s hu h9
        clear h1' h7' h3 hu h9 hnx2
        unfold slE at he
        subst he
        go_wp2_with fail
        have e3 := e2.alloc (.cells #[.slice none 0 0, .slice none 0 0] 35)
        have r3 := r2.alloc (.cells #[.slice none 0 0, .slice none 0 0] 35)
        have hx3 := hx2.alloc (.cells #[.slice none 0 0, .slice none 0 0] 35)
        change Calls _ _ _ (w2.alloc (.cells #[.slice none 0 0, .slice none 0 0] 35)) _
        generalize w2.alloc (.cells #[.slice none 0 0, .slice none 0 0] 35) = w3 at *
        refine (copied_c A A2 64 c n2 c2 B ss ws _ (h.below hx3 hB) (h2.below hx3 hB) (Nat.le_trans hB hx3.size) (by omega) (by omega)).mono ?_
        rintro e w4 ⟨A5, n5, c5, A6, n6, c6, rfl, hS5, hW5, hnx4⟩
        have hlt9 : gD < w3.heap.size := r3.lt
        have r4 := r3.nx hnx4
        have hx4 := hx3.trans hnx4
        go_wp2_with fail
        refine (slotCode_c s 7 _ (hEt.nx hx4)).mono ?_
        rintro e w5 ⟨rfl, hnx5⟩
        replace hS5 := hS5.nx hnx5
        replace hW5 := hW5.nx hnx5
        have r5 := r4.nx hnx5
        have hx5 := hx4.trans hnx5
        have m0 := r5.c0
        have m1 := r5.c1
        have mf0 := r5.frozen 0
        have mf1 := r5.frozen 1
        have mlt := r5.lt
        go_wp2
        have rq := ((r5.set0 (.slice A5 n5 c5)).set1 (.slice A6 n6 c6))
        have hnf := ((hx5.setCell (p := ⟨gD, 0, none⟩) hgD (.slice A5 n5 c5)).setCell (p := ⟨gD, 1, none⟩) hgD (.slice A6 n6 c6))
        have hSf := ((hS5.far (p := ⟨gD, 0, none⟩) hlt9 (.slice A5 n5 c5)).far (p := ⟨gD, 1, none⟩) hlt9 (.slice A6 n6 c6))
        have hWf := ((hW5.far (p := ⟨gD, 0, none⟩) hlt9 (.slice A5 n5 c5)).far (p := ⟨gD, 1, none⟩) hlt9 (.slice A6 n6 c6))
        change bodyPost _ _ _ _ _ ((w5.setCell ⟨gD, 0, none⟩ (.slice A5 n5 c5)).setCell ⟨gD, 1, none⟩ (.slice A6 n6 c6))
        generalize ((w5.setCell ⟨gD, 0, none⟩ (.slice A5 n5 c5)).setCell ⟨gD, 1, none⟩ (.slice A6 n6 c6)) = Wf at *
        have q0 := rq.c0
        have q1 := rq.c1
        exact bodyPost_ret (v := .tuple #[.agg #[.slice A5 n5 c5, .slice A6 n6 c6], .int .i64 7]) (by simp [results, Tryz.results12, go_sem, q0, q1]) rfl (RetDiskCode.mk HPh.out (hSf.low (by omega)) (hWf.low (by omega)) hnf)
      · have HPh := Lib.hid (cmP_yes HD.out HO.out hu h9)
        have hsl := newU_slot hu
        have HOK := Lib.hid (nxt_super HO.out (newU_gen rfl rfl hu) h9)
        have HWn : Hid (List.all ([] ++ [(1 - s, nxtS u b p t xs ms)]) wOk = true) := Lib.hid (by
          have hz := nxt_size HOK.out
          simp only [List.nil_append, List.all_cons, List.all_nil, Bool.and_true]
          unfold wOk secB sOk
          simp only [Bool.and_eq_true, decide_eq_true_eq]
          exact ⟨by rcases hsl with rfl | rfl <;> omega, hz⟩)
        obtain ⟨A5, n5, c5, A6, n6, c6, rfl, hS5, hW5⟩ := h3 u s hu h9
        obtain rfl : n5 = 64 := by rw [← hS5.1, settleTo_len]; exact (diskB_len64 HD.out).1
        obtain rfl : n6 = 1 := hW5.1.symm
        clear h1' h7' h3 hu h9 hnx2
        go_wp2_with fail
        have r3 := r2.alloc (.cells #[.slice A5 64 c5, .slice A6 1 c6] 35)
        have hx3 := hx2.alloc (.cells #[.slice A5 64 c5, .slice A6 1 c6] 35)
        replace hS5 := hS5.nx ((Nx.refl _).alloc (.cells #[.slice A5 64 c5, .slice A6 1 c6] 35))
        replace hW5 := hW5.nx ((Nx.refl _).alloc (.cells #[.slice A5 64 c5, .slice A6 1 c6] 35))
        change Calls _ _ _ (w2.alloc (.cells #[.slice A5 64 c5, .slice A6 1 c6] 35)) _
        generalize w2.alloc (.cells #[.slice A5 64 c5, .slice A6 1 c6] 35) = w3 at *
        refine (flushed_c A5 A6 c5 1 c6 _ _ _ _ hS5.strs hW5.wrs (Nat.le_refl _) (by omega) HWn.out).mono ?_
        rintro e w4 ⟨A8, n8, c8, A9, n9, c9, rfl, hS8, hW8, hnx4⟩
        have hlt9 : gD < w3.heap.size := r3.lt
        have r4 := r3.nx hnx4
        have hx4 := hx3.trans hnx4
        have m0 := r4.c0
        have m1 := r4.c1
        have mf0 := r4.frozen 0
        have mf1 := r4.frozen 1
        have mlt := r4.lt
        go_wp2
        have rq := ((r4.set0 (.slice A8 n8 c8)).set1 (.slice A9 n9 c9))
        have hnf := ((hx4.setCell (p := ⟨gD, 0, none⟩) hgD (.slice A8 n8 c8)).setCell (p := ⟨gD, 1, none⟩) hgD (.slice A9 n9 c9))
        have hSf := ((hS8.far (p := ⟨gD, 0, none⟩) hlt9 (.slice A8 n8 c8)).far (p := ⟨gD, 1, none⟩) hlt9 (.slice A9 n9 c9))
        have hWf := ((hW8.far (p := ⟨gD, 0, none⟩) hlt9 (.slice A8 n8 c8)).far (p := ⟨gD, 1, none⟩) hlt9 (.slice A9 n9 c9))
        change bodyPost _ _ _ _ _ ((w4.setCell ⟨gD, 0, none⟩ (.slice A8 n8 c8)).setCell ⟨gD, 1, none⟩ (.slice A9 n9 c9))
        generalize ((w4.setCell ⟨gD, 0, none⟩ (.slice A8 n8 c8)).setCell ⟨gD, 1, none⟩ (.slice A9 n9 c9)) = Wf at *
        have q0 := rq.c0
        have q1 := rq.c1
        exact bodyPost_ret (v := .tuple #[.agg #[.slice A8 n8 c8, .slice A9 n9 c9], .int .i64 0]) (by simp [results, Tryz.results12, go_sem, q0, q1]) rfl (RetDiskCode.mk (HPh.out.trans rfl) (hSf.low (by omega)) (hWf.low (by omega)) hnf)
end Go.Proofs.YteckhdkghfidiaaGreatDoor
/- Contracts of the laws' functions that count the sizes of disks. Conditions: what is counted can be read. -/
namespace Go.Proofs.YteckhdkghfidiaaGreatDoor
set_option linter.unusedVariables false
open Go.RowKit

def AllS (ss : List ByteArray) : Prop := ∀ k, (ss.getD k ByteArray.empty).size ≤ 2 ^ 63 - 1
def AllW (ws : List (Int × ByteArray)) : Prop := ∀ k, (ws.getD k (0, ByteArray.empty)).2.size ≤ 2 ^ 63 - 1

set_option maxHeartbeats 1000000 in
theorem szStringS_c (A : Option Addr) (n c B : Nat) (ss : List ByteArray) (left : Int) (w : World) (h : Strs w B A n ss) (hm : AllS ss) (hn : n ≤ 2 ^ 63 - 1) (h0 : 0 ≤ left) (h1 : left ≤ 1048576) :
    Calls Tryz.prog 51 #[.slice A n c, .int .i64 left] w fun e w' => e = .returned (.int .i64 (szR left (n + lenS ss))) ∧ w = w' := by
  by_cases hle : (n : Int) ≤ left
  case neg =>
    have HF := Lib.hid (szR_no (left := left) (cost := n + lenS ss) (by omega))
    have hd : decide (left - (n : Int) < 0) = true := by simp; omega
    go_enter Tryz.func51, Tryz.ntmps51
    go_wp2
    go_ret
    exact ⟨ret_int HF.out, rfl⟩
  have hd : decide (left - (n : Int) < 0) = false := by simp; omega
  go_enter Tryz.func51, Tryz.ntmps51
  go_wp2
  go_loop [1, 5] (fun l i => ∃ k : Nat, k ≤ n ∧ i = .int .i64 k ∧ (n : Int) + lenSTo ss k ≤ left ∧ l = .int .i64 (left - (n + lenSTo ss k))) (fun _ i => n - (intOf i).toNat)
  case atStart => exact ⟨0, Nat.zero_le _, rfl, by rw [lenSTo_zero]; omega, by rw [lenSTo_zero]; go_num⟩
  case round =>
    obtain ⟨k, hk, rfl, hle2, rfl⟩ := hrel
    by_cases hlt : k < n
    · obtain ⟨b, off, rfl, hb, hc⟩ := h.at_ hlt
      have hmk := hm k
      have hsu := Lib.hid (lenSTo_succ ss k (by rw [h.1]; exact hlt))
      have hle3 := Lib.hid (lenSTo_le ss (k + 1))
      generalize ss.getD k ByteArray.empty = s at *
      by_cases hg : (n : Int) + (lenSTo ss k + s.size) ≤ left
      · have hd2 : decide (left - (n + lenSTo ss k) - (s.size : Int) < 0) = false := by simp; omega
        go_wp2
        go_round
        case rel => exact ⟨k + 1, by omega, by go_num, by rw [hsu.out]; omega, by rw [hsu.out]; go_num⟩
        case measure => simp [intOf]; omega
      · have hd2 : decide (left - (n + lenSTo ss k) - (s.size : Int) < 0) = true := by simp; omega
        go_wp2
        go_ret
        exact ⟨ret_int (szR_no (by have := hsu.out; have := hle3.out; omega)), rfl⟩
    · obtain rfl : k = n := by omega
      go_wp2
      go_ret
      refine ⟨ret_int ?_, rfl⟩
      have := lenSTo_all ss
      rw [h.1] at this
      rw [this] at hle2 ⊢
      exact szR_yes hle2

set_option maxHeartbeats 1000000 in
theorem szWrite_c (a : Int) (s : ByteArray) (left : Int) (w : World) (hm : s.size ≤ 2 ^ 63 - 1) (h0 : 0 ≤ left) (h1 : left ≤ 1048576) :
    Calls Tryz.prog 108 #[.agg #[.int .i64 a, .string s], .int .i64 left] w fun e w' => e = .returned (.int .i64 (szR left s.size)) ∧ Nx w w' := by
  by_cases hle : (s.size : Int) ≤ left
  · have HF := Lib.hid (szR_yes hle)
    have hd : decide (left - (s.size : Int) < 0) = false := by simp; omega
    go_enter Tryz.func108, Tryz.ntmps108
    go_wp2
    go_ret
    exact ⟨ret_int HF.out, (Nx.refl _).alloc _⟩
  · have HF := Lib.hid (szR_no (left := left) (cost := s.size) (by omega))
    have hd : decide (left - (s.size : Int) < 0) = true := by simp; omega
    go_enter Tryz.func108, Tryz.ntmps108
    go_wp2
    go_ret
    exact ⟨ret_int HF.out, (Nx.refl _).alloc _⟩

set_option maxHeartbeats 1000000 in
theorem szWriteS_c (A : Option Addr) (n c B : Nat) (ws : List (Int × ByteArray)) (left : Int) (w : World) (h : Wrs w B A n ws) (hB : B ≤ w.heap.size) (hm : AllW ws) (hn : n ≤ 2 ^ 63 - 1) (h0 : 0 ≤ left) (h1 : left ≤ 1048576) :
    Calls Tryz.prog 52 #[.slice A n c, .int .i64 left] w fun e w' => e = .returned (.int .i64 (szR left (n + lenW ws))) ∧ Nx w w' := by
  by_cases hle : (n : Int) ≤ left
  case neg =>
    have HF := Lib.hid (szR_no (left := left) (cost := n + lenW ws) (by omega))
    have hd : decide (left - (n : Int) < 0) = true := by simp; omega
    go_enter Tryz.func52, Tryz.ntmps52
    go_wp2
    go_ret
    exact ⟨ret_int HF.out, Nx.refl _⟩
  have hd : decide (left - (n : Int) < 0) = false := by simp; omega
  go_enter Tryz.func52, Tryz.ntmps52
  go_wp2
  go_loopw [1, 5] (fun l i wr => ∃ k : Nat, k ≤ n ∧ i = .int .i64 k ∧ (n : Int) + lenWTo ws k ≤ left ∧ l = .int .i64 (left - (n + lenWTo ws k)) ∧ Nx w wr) (fun _ i _ => n - (intOf i).toNat)
  case atStart => exact ⟨0, Nat.zero_le _, rfl, by rw [lenWTo_zero]; omega, by rw [lenWTo_zero]; go_num, Nx.refl _⟩
  case round =>
    obtain ⟨k, hk, rfl, hle2, rfl, hnx⟩ := hrel
    by_cases hlt : k < n
    · obtain ⟨b, off, rfl, hb, hc0, hc1⟩ := (h.below hnx hB).at_ hlt
      have hmk := hm k
      have hsu := Lib.hid (lenWTo_succ ws k (by rw [h.1]; exact hlt))
      have hle3 := Lib.hid (lenWTo_le ws (k + 1))
      have hl0 := Lib.hid h.1
      generalize ws.getD k (0, ByteArray.empty) = s at *
      obtain ⟨a, s⟩ := s
      by_cases hg : (n : Int) + (lenWTo ws k + s.size) ≤ left
      · have hd2 : decide (left - (n + lenWTo ws k) - (s.size : Int) < 0) = false := by simp; omega
        go_wp2_with fail
        refine (szWrite_c a s _ _ hmk (by omega) (by omega)).mono ?_
        rintro e w1 ⟨rfl, hnx1⟩
        rw [← szR_yes (by omega)]
        go_wp2
        go_roundw
        case rel => exact ⟨k + 1, by omega, by go_num, by rw [hsu.out]; omega, by rw [hsu.out]; go_num, hnx.trans hnx1⟩
        case measure => simp [intOf]; omega
      · go_wp2_with fail
        refine (szWrite_c a s _ _ hmk (by omega) (by omega)).mono ?_
        rintro e w1 ⟨rfl, hnx1⟩
        rw [← szR_no (by omega)]
        go_wp2
        go_ret
        exact ⟨ret_int (szR_no (by have := hsu.out; have := hle3.out; omega)), hnx.trans hnx1⟩
    · obtain rfl : k = n := by omega
      go_wp2
      go_ret
      refine ⟨ret_int ?_, hnx⟩
      have := lenWTo_all ws
      rw [h.1] at this
      rw [this] at hle2 ⊢
      exact szR_yes hle2

def costD (n n2 : Nat) (ss : List ByteArray) (ws : List (Int × ByteArray)) : Int := (n + lenS ss) + (n2 + lenW ws)
set_option maxHeartbeats 1000000 in
theorem szDisk_c (A A2 : Option Addr) (n c n2 c2 B : Nat) (ss : List ByteArray) (ws : List (Int × ByteArray)) (left : Int) (w : World) (h : Strs w B A n ss) (h2 : Wrs w B A2 n2 ws) (hB : B ≤ w.heap.size)
    (hm : AllS ss) (hm2 : AllW ws) (hn : n ≤ 2 ^ 63 - 1) (hn2 : n2 ≤ 2 ^ 63 - 1) (h0 : 0 ≤ left) (h1 : left ≤ 1048576) :
    Calls Tryz.prog 18 #[.agg #[.slice A n c, .slice A2 n2 c2], .int .i64 left] w fun e w' => e = .returned (.int .i64 (szR left (costD n n2 ss ws))) ∧ Nx w w' := by
  by_cases hle : (n : Int) + lenS ss ≤ left
  case neg =>
    have HF := Lib.hid (szR_no (left := left) (cost := costD n n2 ss ws) (by unfold costD; omega))
    go_enter Tryz.func18, Tryz.ntmps18
    go_wp2_with fail
    refine (szStringS_c A n c B ss left _ (h.below ((Nx.refl w).alloc _) hB) hm hn h0 h1).mono ?_
    rintro e w1 ⟨rfl, rfl⟩
    rw [← szR_no (by omega)]
    go_wp2
    go_ret
    exact ⟨ret_int HF.out, (Nx.refl _).alloc _⟩
  go_enter Tryz.func18, Tryz.ntmps18
  go_wp2_with fail
  refine (szStringS_c A n c B ss left _ (h.below ((Nx.refl w).alloc _) hB) hm hn h0 h1).mono ?_
  rintro e w1 ⟨rfl, rfl⟩
  rw [← szR_yes hle]
  have hd : decide (left - (n + lenS ss) < 0) = false := by simp; omega
  go_wp2_with fail
  refine (szWriteS_c A2 n2 c2 B ws _ _ (h2.below ((Nx.refl w).alloc _) hB) (Nat.le_trans hB (by simp)) hm2 hn2 (by omega) (by omega)).mono ?_
  rintro e w1 ⟨rfl, hnx⟩
  by_cases hle2 : (n2 : Int) + lenW ws ≤ left - (n + lenS ss)
  · rw [← szR_yes hle2]
    have hd : decide (left - (n + lenS ss) - (n2 + lenW ws) < 0) = false := by simp; omega
    go_wp2
    go_ret
    refine ⟨ret_int ?_, ((Nx.refl _).alloc _).trans hnx⟩
    rw [← szR_yes (by unfold costD; omega)]
    unfold costD
    omega
  · rw [← szR_no (by omega)]
    go_wp2
    go_ret
    exact ⟨ret_int (szR_no (by unfold costD; omega)), ((Nx.refl _).alloc _).trans hnx⟩
end Go.Proofs.YteckhdkghfidiaaGreatDoor
/- Contracts of the laws' functions that compare disks, where both sides hold the same. Conditions: both sides can be read and are alike. -/
namespace Go.Proofs.YteckhdkghfidiaaGreatDoor
set_option linter.unusedVariables false
open Go.RowKit

set_option maxRecDepth 100000 in
set_option maxHeartbeats 1000000 in
theorem eqStringS_c (A A2 : Option Addr) (n c c2 B : Nat) (ss : List ByteArray) (w : World) (h : Strs w B A n ss) (h2 : Strs w B A2 n ss) (hB : B ≤ w.heap.size) (hn : n ≤ 1048576) :
    Calls Tryz.prog 57 #[.slice A n c, .slice A2 n c2] w fun e w' => e = .returned (.bool true) ∧ Nx w w' := by
  go_enter Tryz.func57, Tryz.ntmps57
  go_wp2
  go_loopw [5] (fun i wr => ∃ k : Nat, k ≤ n ∧ i = .int .i64 k ∧ Nx w wr) (fun i _ => n - (intOf i).toNat)
  case atStart => exact ⟨0, Nat.zero_le _, rfl, Nx.refl _⟩
  case round =>
    obtain ⟨k, hk, rfl, hnx⟩ := hrel
    by_cases hlt : k < n
    · obtain ⟨b, off, rfl, hb, hc⟩ := (h.below hnx hB).at_ hlt
      obtain ⟨b2, off2, rfl, hb2, hc2⟩ := (h2.below hnx hB).at_ hlt
      generalize ss.getD k ByteArray.empty = s at hc hc2
      go_wp2
      go_quiet (fail)
      go_wp2
      go_roundw
      case rel => exact ⟨k + 1, by omega, by go_num, hnx.drewN _⟩
      case measure => simp [intOf]; omega
    · go_wp2
      go_ret
      exact ⟨rfl, hnx⟩

set_option maxRecDepth 100000 in
set_option maxHeartbeats 1000000 in
theorem eqWrite_c (a : Int) (s : ByteArray) (w : World) :
    Calls Tryz.prog 111 #[.agg #[.int .i64 a, .string s], .agg #[.int .i64 a, .string s]] w fun e w' => e = .returned (.bool true) ∧ Nx w w' := by
  go_enter Tryz.func111, Tryz.ntmps111
  go_wp2
  go_ret
  exact ⟨rfl, (((Nx.refl _).alloc _).alloc _)⟩

set_option maxRecDepth 100000 in
set_option maxHeartbeats 1000000 in
theorem eqWriteS_c (A A2 : Option Addr) (n c c2 B : Nat) (ws : List (Int × ByteArray)) (w : World) (h : Wrs w B A n ws) (h2 : Wrs w B A2 n ws) (hB : B ≤ w.heap.size) (hn : n ≤ 1048576) :
    Calls Tryz.prog 58 #[.slice A n c, .slice A2 n c2] w fun e w' => e = .returned (.bool true) ∧ Nx w w' := by
  go_enter Tryz.func58, Tryz.ntmps58
  go_wp2
  go_loopw [5] (fun i wr => ∃ k : Nat, k ≤ n ∧ i = .int .i64 k ∧ Nx w wr) (fun i _ => n - (intOf i).toNat)
  case atStart => exact ⟨0, Nat.zero_le _, rfl, Nx.refl _⟩
  case round =>
    obtain ⟨k, hk, rfl, hnx⟩ := hrel
    by_cases hlt : k < n
    · obtain ⟨b, off, rfl, hb, hc, hd⟩ := (h.below hnx hB).at_ hlt
      obtain ⟨b2, off2, rfl, hb2, hc2, hd2⟩ := (h2.below hnx hB).at_ hlt
      generalize ws.getD k (0, ByteArray.empty) = s at hc hc2 hd hd2
      obtain ⟨a, s⟩ := s
      go_wp2_with fail
      go_still_tail 8, (by kernel_rfl)
      change wpList _ _ _ _ _ wr.drew
      have hnx1 : Nx w wr.drew := Below.drew hnx
      generalize wr.drew = wd at *
      go_wp2_with fail
      refine (eqWrite_c a s _).mono ?_
      rintro e w1 ⟨rfl, hnx2⟩
      go_wp2
      go_roundw
      case rel => exact ⟨k + 1, by omega, by go_num, hnx1.trans hnx2⟩
      case measure => simp [intOf]; omega
    · go_wp2
      go_ret
      exact ⟨rfl, hnx⟩

set_option maxRecDepth 100000 in
set_option maxHeartbeats 1000000 in
theorem eqDisk_c (A A2 A3 A4 : Option Addr) (n c c3 n2 c2 c4 B : Nat) (ss : List ByteArray) (ws : List (Int × ByteArray)) (w : World) (h : Strs w B A n ss) (h3 : Strs w B A3 n ss) (h2 : Wrs w B A2 n2 ws) (h4 : Wrs w B A4 n2 ws)
    (hB : B ≤ w.heap.size) (hn : n ≤ 1048576) (hn2 : n2 ≤ 1048576) :
    Calls Tryz.prog 22 #[.agg #[.slice A n c, .slice A2 n2 c2], .agg #[.slice A3 n c3, .slice A4 n2 c4]] w fun e w' => e = .returned (.bool true) ∧ Nx w w' := by
  go_enter Tryz.func22, Tryz.ntmps22
  go_wp2_with fail
  have b0 := (Box.new w 35 #[.slice A n c, .slice A2 n2 c2]).alloc (.cells #[.slice A3 n c3, .slice A4 n2 c4] 35)
  have b1 := Box.new (w.alloc (.cells #[.slice A n c, .slice A2 n2 c2] 35)) 35 #[.slice A3 n c3, .slice A4 n2 c4]
  have hnx0 := ((Nx.refl w).alloc (.cells #[.slice A n c, .slice A2 n2 c2] 35)).alloc (.cells #[.slice A3 n c3, .slice A4 n2 c4] 35)
  simp only [World.size_alloc] at b1
  generalize ((w.alloc (.cells #[.slice A n c, .slice A2 n2 c2] 35)).alloc (.cells #[.slice A3 n c3, .slice A4 n2 c4] 35)) = W at *
  refine (eqStringS_c A A3 n c c3 B ss _ (h.below hnx0 hB) (h3.below hnx0 hB) (Nat.le_trans hB hnx0.size) hn).mono ?_
  rintro e w1 ⟨rfl, hnx1⟩
  have b0' := b0.nx hnx1
  have b1' := b1.nx hnx1
  have c00 := b0'.c0
  have c01 := b0'.c1
  have c10 := b1'.c0
  have c11 := b1'.c1
  have hnx2 := hnx0.trans hnx1
  go_wp2_with fail
  refine (eqWriteS_c A2 A4 n2 c2 c4 B ws _ (h2.below hnx2 hB) (h4.below hnx2 hB) (Nat.le_trans hB hnx2.size) hn2).mono ?_
  rintro e w2 ⟨rfl, hnx3⟩
  go_wp2
  go_ret
  exact ⟨rfl, hnx2.trans hnx3⟩
end Go.Proofs.YteckhdkghfidiaaGreatDoor
/- The walk of the law FnExactCommitSuper. Conditions: the disk and the super that come in can be read; the package's errors are known; the library's variables MaxLen and errorType and its table of powers of ten too. -/
namespace Go.Proofs.YteckhdkghfidiaaGreatDoor
set_option linter.unusedVariables false
set_option maxRecDepth 100000
open Go.RowKit
theorem merge14 {G : Nat → Option Addr → Nat → Option Addr → Nat → World → Option Addr → Nat → Option Addr → Nat → Option Addr → Nat → Option Addr → Nat → Prop} {F : Nat → Option Addr → Nat → Option Addr → Nat → World → Prop} {R : Prop} (main : (∀ g A c B d W Ai ci Bi di Aj cj Bj dj, F g A c B d W → G g A c B d W Ai ci Bi di Aj cj Bj dj) → R) (key : ∀ g A c B d W Ai ci Bi di Aj cj Bj dj, F g A c B d W → G g A c B d W Ai ci Bi di Aj cj Bj dj) : R := main key
theorem SlS.two {u : World} {lo n gz : Nat} {A : Option Addr} {ss : List ByteArray} {a b : Value} (h : SlS u lo A n ss) (hb : Box u gz 35 #[a, b]) (v0 v1 : Value) : SlS ((u.setCell ⟨gz, 0, none⟩ v0).setCell ⟨gz, 1, none⟩ v1) lo A n ss :=
  ⟨h.1, fun hn => by
    have k : Sl u lo A 9 ss.length (strAt ss) := fun _ => h.2 hn
    exact ((k.far_ty (p := ⟨gz, 0, none⟩) hb (by decide) v0).far_ty (p := ⟨gz, 1, none⟩) (hb.set0 v0) (by decide) v1) (by rw [h.1]; exact hn)⟩
theorem SlW.two {u : World} {lo n gz : Nat} {A : Option Addr} {ws : List (Int × ByteArray)} {a b : Value} (h : SlW u lo A n ws) (hb : Box u gz 35 #[a, b]) (v0 v1 : Value) : SlW ((u.setCell ⟨gz, 0, none⟩ v0).setCell ⟨gz, 1, none⟩ v1) lo A n ws :=
  ⟨h.1, fun hn => by
    have k : Sl u lo A 85 (ws.length * 2) (wrAt ws) := fun _ => h.2 hn
    exact ((k.far_ty (p := ⟨gz, 0, none⟩) hb (by decide) v0).far_ty (p := ⟨gz, 1, none⟩) (hb.set0 v0) (by decide) v1) (by rw [h.1]; omega)⟩
theorem cmP_len (ss : List ByteArray) (ws : List (Int × ByteArray)) (g b p t : Int) (xs : List Int) (ms : List Mrk) : (cmP ss ws g b p t xs ms).1.1.length ≤ 64 ∧ (cmP ss ws g b p t xs ms).1.2.length ≤ 80 := by
  cases hD : diskB ss ws with
  | false => rw [cmP_bad (by rw [hD]; rfl)]; simp
  | true =>
    have h64 := diskB_len64 hD
    cases hO : superB g b p t xs ms with
    | false => rw [cmP_bad (by rw [hO]; simp)]; simp
    | true =>
      cases hu : newU (rdU (readP ss ws 0)) (rdU (readP ss ws 1)) with
      | none => rw [cmP_none hD hO hu]; exact ⟨Nat.le_of_eq h64.1, h64.2.1⟩
      | some us =>
        obtain ⟨u, s⟩ := us
        by_cases h9 : u.1 = 999999
        · rw [cmP_full hD hO hu h9]; exact ⟨Nat.le_of_eq h64.1, h64.2.1⟩
        · rw [cmP_yes hD hO hu h9]; exact ⟨by rw [settleTo_len, settleTo_len]; exact Nat.le_of_eq h64.1, Nat.zero_le _⟩
theorem specCommitSuper_r (A A2 : Option Addr) (n c n2 c2 B : Nat) (ss : List ByteArray) (ws : List (Int × ByteArray)) (g b p t : Int) (Ax Am : Option Addr) (cx cm : Nat) (xs : List Int) (ms : List Mrk) (w : World) (R1 : List ByteArray) (R2 : List (Int × ByteArray)) (cd : Int) (hP : cmP ss ws g b p t xs ms = ((R1, R2), cd)) (h : Strs w B A n ss) (h2 : Wrs w B A2 n2 ws) (hs : Ins w B Ax xs) (hmk : Mks w B Am ms) (hB : B ≤ w.heap.size) (hn : n ≤ 1048576) (hn2 : n2 ≤ 1048576) (hx : xs.length ≤ 1048576) (hms : ms.length ≤ 1048576) (hcx : xs.length ≤ cx) (hAm : AllM ms) :
    Calls Tryz.prog 13 #[.agg #[.slice A n c, .slice A2 n2 c2], .agg #[.int .i64 g, .int .i64 b, .int .i64 p, .int .i64 t, .slice Ax xs.length cx, .slice Am ms.length cm]] w (RetDiskCode w R1 R2 cd) := by
  have k := specCommitSuper_c A A2 n c n2 c2 B ss ws g b p t Ax Am cx cm xs ms w h h2 hs hmk hB hn hn2 hx hms hcx hAm
  rw [hP] at k
  exact k
theorem implCommitSuper_r (A A2 : Option Addr) (n c n2 c2 B : Nat) (ss : List ByteArray) (ws : List (Int × ByteArray)) (g b p t : Int) (Ax Am : Option Addr) (cx cm : Nat) (xs : List Int) (ms : List Mrk) (w : World) (a0 a1 : Addr) (R1 : List ByteArray) (R2 : List (Int × ByteArray)) (cd : Int) (hP : cmP ss ws g b p t xs ms = ((R1, R2), cd)) (h : Strs w B A n ss) (h2 : Wrs w B A2 n2 ws) (hs : Ins w B Ax xs) (hmk : Mks w B Am ms) (hB : B ≤ w.heap.size) (hn : n ≤ 1048576) (hn2 : n2 ≤ 1048576) (hx : xs.length ≤ 1048576) (hms : ms.length ≤ 1048576) (hcx : xs.length ≤ cx) (hAm : AllM ms) (hE : Er w a0 a1) (hM : Mx w) (hEt : Et w) (hT : Tab w) :
    Calls Tryz.prog 12 #[.agg #[.slice A n c, .slice A2 n2 c2], .agg #[.int .i64 g, .int .i64 b, .int .i64 p, .int .i64 t, .slice Ax xs.length cx, .slice Am ms.length cm]] w (RetDiskCode w R1 R2 cd) := by
  have k := implCommitSuper_c A A2 n c n2 c2 B ss ws g b p t Ax Am cx cm xs ms w a0 a1 h h2 hs hmk hB hn hn2 hx hms hcx hAm hE hM hEt hT
  rw [hP] at k
  exact k
set_option maxHeartbeats 16000000 in
theorem lawCommitSuper (A A2 : Option Addr) (n c n2 c2 : Nat) (ss : List ByteArray) (ws : List (Int × ByteArray)) (g b p t : Int) (Ax Am : Option Addr) (cx cm : Nat) (xs : List Int) (ms : List Mrk) (w : World) (a0 a1 : Addr) (hE : Er w a0 a1) (hM : Mx w) (hEt : Et w) (hT : Tab w) (h : Strs w w.heap.size A n ss) (h2 : Wrs w w.heap.size A2 n2 ws)
    (hm : AllS ss) (hm2 : AllW ws) (hn : n ≤ 2 ^ 63 - 1) (hn2 : n2 ≤ 2 ^ 63 - 1) (hs : Ins w w.heap.size Ax xs) (hmk : Mks w w.heap.size Am ms) (hmm : AllM ms) (hx : xs.length ≤ 2 ^ 63 - 1) (hms : ms.length ≤ 2 ^ 63 - 1) :
    Calls Tryz.prog 5 #[.agg #[.slice A n c, .slice A2 n2 c2], .agg #[.int .i64 g, .int .i64 b, .int .i64 p, .int .i64 t, .slice Ax xs.length cx, .slice Am ms.length cm]] w fun e w' => e = .returned (.bool true) ∧ Nx w w' := by
  have hlen := cmP_len ss ws g b p t xs ms
  obtain ⟨⟨⟨R1, R2⟩, cd⟩, HPc⟩ : ∃ y, Hid (cmP ss ws g b p t xs ms = y) := ⟨_, rfl⟩
  rw [HPc.out] at hlen
  obtain ⟨r1, Hr1⟩ : ∃ r, Hid (R1.length = r) := ⟨_, rfl⟩
  obtain ⟨r2, Hr2⟩ : ∃ r, Hid (R2.length = r) := ⟨_, rfl⟩
  have hr1 : r1 ≤ 1048576 := by have := Hr1.out; have := hlen.1; simp only at this; omega
  have hr2 : r2 ≤ 1048576 := by have := Hr2.out; have := hlen.2; simp only at this; omega
  clear hlen
  go_enter Tryz.func5, Tryz.ntmps5
  go_wp2_with fail
  have bL := (Box.new w 49 #[.slice A n c, .slice A2 n2 c2]).alloc (.cells #[.int .i64 g, .int .i64 b, .int .i64 p, .int .i64 t, .slice Ax xs.length cx, .slice Am ms.length cm] 58)
  have bM := Box.new (w.alloc (.cells #[.slice A n c, .slice A2 n2 c2] 49)) 58 #[.int .i64 g, .int .i64 b, .int .i64 p, .int .i64 t, .slice Ax xs.length cx, .slice Am ms.length cm]
  have hX := ((Nx.refl w).alloc (.cells #[.slice A n c, .slice A2 n2 c2] 49)).alloc (.cells #[.int .i64 g, .int .i64 b, .int .i64 p, .int .i64 t, .slice Ax xs.length cx, .slice Am ms.length cm] 58)
  simp only [World.size_alloc] at bM
  have zb := bM.lt
  generalize (w.alloc (.cells #[.slice A n c, .slice A2 n2 c2] 49)).alloc (.cells #[.int .i64 g, .int .i64 b, .int .i64 p, .int .i64 t, .slice Ax xs.length cx, .slice Am ms.length cm] 58) = W at *
  refine (szDisk_c A A2 n c n2 c2 w.heap.size ss ws _ _ (h.below hX (Nat.le_refl _)) (h2.below hX (Nat.le_refl _)) hX.size hm hm2 hn hn2 (by omega) (by omega)).mono ?_
  rintro e w1 ⟨rfl, hx1⟩
  by_cases hle : costD n n2 ss ws ≤ 1048576
  case neg =>
    rw [← szR_no (by omega)]
    go_wp2
    go_ret
    exact ⟨rfl, hX.trans hx1⟩
  rw [← szR_yes hle]
  have hd0 : 0 ≤ costD n n2 ss ws := by unfold costD; omega
  have hd1 : decide (1048576 - costD n n2 ss ws < 0) = false := by simp; omega
  have zhx1 := hx1.size; replace bL := bL.nx hx1; replace bM := bM.nx hx1; replace hX := hX.trans hx1
  obtain ⟨lc0, lc1, lc2, lc3, lc4, lc5⟩ := bM.d6
  go_wp2_with fail
  refine (szSuper_c g b p t Ax Am cx cm w.heap.size xs ms _ _ (hmk.below hX (Nat.le_refl _)) hX.size hmm hx hms (by omega) (by omega)).mono ?_
  rintro e w2 ⟨rfl, hx2⟩
  by_cases hle2 : costU xs ms ≤ 1048576 - costD n n2 ss ws
  case neg =>
    rw [← szR_no (by omega)]
    go_wp2
    go_ret
    exact ⟨rfl, hX.trans hx2⟩
  rw [← szR_yes hle2]
  have hd2 : decide (1048576 - costD n n2 ss ws - costU xs ms < 0) = false := by simp; omega
  have hn' : n ≤ 1048576 := by unfold costD at hle; omega
  have hn2' : n2 ≤ 1048576 := by unfold costD at hle; omega
  have hx' : xs.length ≤ 1048576 := by unfold costU at hle2; omega
  have hm' : ms.length ≤ 1048576 := by unfold costU at hle2; omega
  clear lc0 lc1 lc2 lc3 lc4 lc5
  have zhx2 := hx2.size; replace bL := bL.nx hx2; replace bM := bM.nx hx2; replace hX := hX.trans hx2
  go_wp2_with fail
  refine merge14 (F := (fun gq Aq cq Bq dq Wq => Box Wq gq 35 #[.slice Aq r1 cq, .slice Bq r2 dq] ∧ SlS Wq w2.heap.size Aq r1 R1 ∧ SlW Wq w2.heap.size Bq r2 R2 ∧ w2.heap.size ≤ gq ∧ Nx w2 Wq)) (G := ?_) (fun key => ?_) ?_
  rotate_left
  · have hXs : Nx w2 w2.drew := (Nx.refl w2).drew
    have hXk := hX
    have hX := hXk.drew
    clear hXk
    have zd : w2.heap.size ≤ w2.drew.heap.size := Nat.le_refl _
    have bLk := bL
    have bL : Box w2.drew w.heap.size 49 #[.slice A n c, .slice A2 n2 c2] := bLk
    clear bLk
    have bMk := bM
    have bM : Box w2.drew (w.heap.size + 1) 58 #[.int .i64 g, .int .i64 b, .int .i64 p, .int .i64 t, .slice Ax xs.length cx, .slice Am ms.length cm] := bMk
    clear bMk
    have zbl := bM.lt
    refine wp_region_plan (.t 0 (.t 2 (.b 1 (.b 3 (.b 4 (.t 5 (.t 6 (.t 7 (.c 8 (.c 9 (.t 10 .e)))))) 8 (.c 4 (.t 5 (.t 6 (.t 7 (.c 9 (.t 10 .e))))))) 8 (.c 3 (.c 4 (.t 5 (.t 6 (.t 7 (.c 9 (.t 10 .e)))))))) 8 (.c 1 (.c 3 (.c 4 (.t 5 (.t 6 (.t 7 (.c 9 (.t 10 .e))))))))))) (fun w' => (w'.cell? ⟨w.heap.size, 0, none⟩ = some (.slice A n c) ∧ w'.cell? ⟨w.heap.size, 1, none⟩ = some (.slice A2 n2 c2)) ∧ (w'.cell? ⟨(w.heap.size + 1), 0, none⟩ = some (.int .i64 g) ∧ w'.cell? ⟨(w.heap.size + 1), 1, none⟩ = some (.int .i64 b) ∧ w'.cell? ⟨(w.heap.size + 1), 2, none⟩ = some (.int .i64 p) ∧ w'.cell? ⟨(w.heap.size + 1), 3, none⟩ = some (.int .i64 t) ∧ w'.cell? ⟨(w.heap.size + 1), 4, none⟩ = some (.slice Ax xs.length cx) ∧ w'.cell? ⟨(w.heap.size + 1), 5, none⟩ = some (.slice Am ms.length cm))) (by kernel_rfl) (by kernel_rfl) rfl (by kernel_rfl) (fun _ _ d _ _ h => by cases d <;> exact h) (by exact ⟨⟨bL.c0, bL.c1⟩, bM.d6⟩) ?_
    simp only [psOf, List.getD_cons_zero, List.getD_cons_succ]
    generalize w2.drew = W0 at *
    repeat (first | (refine HP.take (v := ?_) (by rfl) ?_ ?_; rotate_left; (· (intro w hSw; (try dsimp only at hSw); go_simp; try with_reducible rfl)); (try simp only [Act.put, List.setIfInBounds_toArray, List.set_cons_zero, List.set_cons_succ])) | (refine HP.skip (by rfl) ?_; (try simp only [Act.put, List.setIfInBounds_toArray, List.set_cons_zero, List.set_cons_succ])))
    refine HP.both ?_ ?_
    · refine CallStep.mk (by rfl) (fun K hK => ?_)
      go_simp
      refine (toDisk_c A A2 n c n2 c2 w.heap.size ss ws _ (h.below hX (Nat.le_refl _)) (h2.below hX (Nat.le_refl _)) hX.size hn' hn2').mono ?_; rintro e v1 ⟨Ai, ni, ci, Bi, mi, di, rfl, hiS, hiW, hv1⟩; obtain rfl : n = ni := h.1.symm.trans hiS.1; obtain rfl : n2 = mi := h2.1.symm.trans hiW.1; have zhv1 := hv1.size; replace bL := bL.nx hv1; replace bM := bM.nx hv1; replace hX := hX.trans hv1; replace hXs := hXs.trans hv1; (try replace bz := bz.nx hv1); (try replace hiS := hiS.nx hv1); (try replace hiW := hiW.nx hv1); (try replace hjS := hjS.nx hv1); (try replace hjM := hjM.nx hv1); (try replace hS := hS.nx hv1); (try replace hW := hW.nx hv1)
      go_wp2_with fail
      refine hK.out _ _ (by exact ⟨⟨bL.c0, bL.c1⟩, bM.d6⟩) ?_
      clear hK K
      try simp only [Act.put, List.setIfInBounds_toArray, List.set_cons_zero, List.set_cons_succ]
      refine HP.both ?_ ?_
      · refine CallStep.mk (by rfl) (fun K hK => ?_)
        go_simp
        refine (toSuper_c g b p t Ax Am cx cm w.heap.size xs ms _ (hs.below hX (Nat.le_refl _)) (hmk.below hX (Nat.le_refl _)) hX.size hx' hm').mono ?_; rintro e v2 ⟨Aj, cj, Bj, dj, rfl, hcj, hjS, hjM, hv2⟩; have Hcj := Lib.hid hcj; clear hcj; have zhv2 := hv2.size; replace bL := bL.nx hv2; replace bM := bM.nx hv2; replace hX := hX.trans hv2; replace hXs := hXs.trans hv2; (try replace bz := bz.nx hv2); (try replace hiS := hiS.nx hv2); (try replace hiW := hiW.nx hv2); (try replace hjS := hjS.nx hv2); (try replace hjM := hjM.nx hv2); (try replace hS := hS.nx hv2); (try replace hW := hW.nx hv2)
        go_wp2_with fail
        refine hK.out _ _ (by exact ⟨⟨bL.c0, bL.c1⟩, bM.d6⟩) ?_
        clear hK K
        try simp only [Act.put, List.setIfInBounds_toArray, List.set_cons_zero, List.set_cons_succ]
        refine HP.both ?_ ?_
        · refine CallStep.mk (by rfl) (fun K hK => ?_)
          go_simp
          refine (specCommitSuper_r Ai Bi n ci n2 di _ ss ws g b p t Aj Bj cj dj xs ms _ R1 R2 cd HPc.out hiS.strs hiW.wrs hjS.row hjM.row (Nat.le_refl _) hn' hn2' hx' hm' Hcj.out hmm).mono ?_; rintro e v3 ⟨A9, n9, c9, B9, m9, d9, rfl, hS, hW, hv3⟩; obtain rfl : r1 = n9 := Hr1.out.symm.trans hS.1; obtain rfl : r2 = m9 := Hr2.out.symm.trans hW.1; replace hS := hS.low (lo' := w2.heap.size) (by have := hXs.size; omega); replace hW := hW.low (lo' := w2.heap.size) (by have := hXs.size; omega); have zhv3 := hv3.size; replace bL := bL.nx hv3; replace bM := bM.nx hv3; replace hX := hX.trans hv3; replace hXs := hXs.trans hv3; (try replace bz := bz.nx hv3); (try replace hiS := hiS.nx hv3); (try replace hiW := hiW.nx hv3); (try replace hjS := hjS.nx hv3); (try replace hjM := hjM.nx hv3); (try replace hS := hS.nx hv3); (try replace hW := hW.nx hv3)
          go_wp2_with fail
          refine hK.out _ _ (by exact ⟨⟨bL.c0, bL.c1⟩, bM.d6⟩) ?_
          clear hK K
          try simp only [Act.put, List.setIfInBounds_toArray, List.set_cons_zero, List.set_cons_succ]
          repeat (first | (refine HP.take (v := ?_) (by rfl) ?_ ?_; rotate_left; (· (intro w hSw; (try dsimp only at hSw); go_simp; try with_reducible rfl)); (try simp only [Act.put, List.setIfInBounds_toArray, List.set_cons_zero, List.set_cons_succ])) | (refine HP.skip (by rfl) ?_; (try simp only [Act.put, List.setIfInBounds_toArray, List.set_cons_zero, List.set_cons_succ])))
          refine HP.call ?_
          have bz := Box.new v3 35 #[.slice none 0 0, .slice none 0 0]
          have hz := (Nx.refl v3).alloc (.cells #[.slice none 0 0, .slice none 0 0] 35)
          have zlt : v3.heap.size < (v3.alloc (.cells #[.slice none 0 0, .slice none 0 0] 35)).heap.size := by simp
          have zhz := hz.size; replace bL := bL.nx hz; replace bM := bM.nx hz; replace hX := hX.trans hz; replace hXs := hXs.trans hz; (try replace bz := bz.nx hz); (try replace hiS := hiS.nx hz); (try replace hiW := hiW.nx hz); (try replace hjS := hjS.nx hz); (try replace hjM := hjM.nx hz); (try replace hS := hS.nx hz); (try replace hW := hW.nx hz)
          refine CallStep.mk (by rfl) (fun K hK => ?_)
          go_simp
          refine hK.out _ _ (by exact ⟨⟨bL.c0, bL.c1⟩, bM.d6⟩) ?_
          clear hK K
          try simp only [Act.put, List.setIfInBounds_toArray, List.set_cons_zero, List.set_cons_succ]
          change HP _ _ _ _ _ _ (v3.alloc (.cells #[.slice none 0 0, .slice none 0 0] 35))
          generalize v3.alloc (.cells #[.slice none 0 0, .slice none 0 0] 35) = Wz at *
          generalize v3.heap.size = gz at *
          clear hz
          have rc0 := bz.c0; have rc1 := bz.c1
          have rf0 := bz.frozen 0
          have rf1 := bz.frozen 1
          have rf2 := bz.frozen 2
          have rf3 := bz.frozen 3
          have rlt := bz.lt
          refine HP.call ?_
          refine CallStep.mk (by rfl) (fun K hK => ?_)
          go_simp
          refine hK.out _ _ (by exact ⟨⟨((bL.far (p := ⟨gz, 0, none⟩) (by simp <;> omega) (.slice A9 r1 c9)).far (p := ⟨gz, 1, none⟩) (by simp <;> omega) (.slice B9 r2 d9)).c0, ((bL.far (p := ⟨gz, 0, none⟩) (by simp <;> omega) (.slice A9 r1 c9)).far (p := ⟨gz, 1, none⟩) (by simp <;> omega) (.slice B9 r2 d9)).c1⟩, ((bM.far (p := ⟨gz, 0, none⟩) (by simp <;> omega) (.slice A9 r1 c9)).far (p := ⟨gz, 1, none⟩) (by simp <;> omega) (.slice B9 r2 d9)).d6⟩) ?_
          clear hK K
          try simp only [Act.put, List.setIfInBounds_toArray, List.set_cons_zero, List.set_cons_succ]
          clear rc0 rc1 rf0 rf1 rf2 rf3
          repeat (first | (refine HP.take (v := ?_) (by rfl) ?_ ?_; rotate_left; (· (intro w hSw; (try dsimp only at hSw); go_simp; try with_reducible rfl)); (try simp only [Act.put, List.setIfInBounds_toArray, List.set_cons_zero, List.set_cons_succ])) | (refine HP.skip (by rfl) ?_; (try simp only [Act.put, List.setIfInBounds_toArray, List.set_cons_zero, List.set_cons_succ])))
          refine HP.done ?_
          have rq := (bz.set0 (.slice A9 r1 c9)).set1 (.slice B9 r2 d9)
          have hnf := (hXs.setCell (p := ⟨gz, 0, none⟩) (by show _ ≤ gz; omega) (.slice A9 r1 c9)).setCell (p := ⟨gz, 1, none⟩) (by show _ ≤ gz; omega) (.slice B9 r2 d9)
          have hSf := hS.two bz (.slice A9 r1 c9) (.slice B9 r2 d9)
          have hWf := hW.two bz (.slice A9 r1 c9) (.slice B9 r2 d9)
          generalize ((Wz.setCell ⟨gz, 0, none⟩ (.slice A9 r1 c9)).setCell ⟨gz, 1, none⟩ (.slice B9 r2 d9)) = Wf at *
          exact key gz A9 c9 B9 d9 Wf Ai ci Bi di Aj cj Bj dj ⟨rq, hSf, hWf, by omega, hnf⟩
        · have bz := Box.new v2 35 #[.slice none 0 0, .slice none 0 0]
          have hz := (Nx.refl v2).alloc (.cells #[.slice none 0 0, .slice none 0 0] 35)
          have zlt : v2.heap.size < (v2.alloc (.cells #[.slice none 0 0, .slice none 0 0] 35)).heap.size := by simp
          have zhz := hz.size; replace bL := bL.nx hz; replace bM := bM.nx hz; replace hX := hX.trans hz; replace hXs := hXs.trans hz; (try replace bz := bz.nx hz); (try replace hiS := hiS.nx hz); (try replace hiW := hiW.nx hz); (try replace hjS := hjS.nx hz); (try replace hjM := hjM.nx hz); (try replace hS := hS.nx hz); (try replace hW := hW.nx hz)
          refine CallStep.mk (by rfl) (fun K hK => ?_)
          go_simp
          refine hK.out _ _ (by exact ⟨⟨bL.c0, bL.c1⟩, bM.d6⟩) ?_
          clear hK K
          try simp only [Act.put, List.setIfInBounds_toArray, List.set_cons_zero, List.set_cons_succ]
          change HP _ _ _ _ _ _ (v2.alloc (.cells #[.slice none 0 0, .slice none 0 0] 35))
          generalize v2.alloc (.cells #[.slice none 0 0, .slice none 0 0] 35) = Wz at *
          generalize v2.heap.size = gz at *
          clear hz
          refine HP.call ?_
          refine CallStep.mk (by rfl) (fun K hK => ?_)
          go_simp
          refine (specCommitSuper_r Ai Bi n ci n2 di _ ss ws g b p t Aj Bj cj dj xs ms _ R1 R2 cd HPc.out hiS.strs hiW.wrs hjS.row hjM.row (Nat.le_refl _) hn' hn2' hx' hm' Hcj.out hmm).mono ?_; rintro e v3 ⟨A9, n9, c9, B9, m9, d9, rfl, hS, hW, hv3⟩; obtain rfl : r1 = n9 := Hr1.out.symm.trans hS.1; obtain rfl : r2 = m9 := Hr2.out.symm.trans hW.1; replace hS := hS.low (lo' := w2.heap.size) (by have := hXs.size; omega); replace hW := hW.low (lo' := w2.heap.size) (by have := hXs.size; omega); have zhv3 := hv3.size; replace bL := bL.nx hv3; replace bM := bM.nx hv3; replace hX := hX.trans hv3; replace hXs := hXs.trans hv3; (try replace bz := bz.nx hv3); (try replace hiS := hiS.nx hv3); (try replace hiW := hiW.nx hv3); (try replace hjS := hjS.nx hv3); (try replace hjM := hjM.nx hv3); (try replace hS := hS.nx hv3); (try replace hW := hW.nx hv3)
          go_wp2_with fail
          refine hK.out _ _ (by exact ⟨⟨bL.c0, bL.c1⟩, bM.d6⟩) ?_
          clear hK K
          try simp only [Act.put, List.setIfInBounds_toArray, List.set_cons_zero, List.set_cons_succ]
          repeat (first | (refine HP.take (v := ?_) (by rfl) ?_ ?_; rotate_left; (· (intro w hSw; (try dsimp only at hSw); go_simp; try with_reducible rfl)); (try simp only [Act.put, List.setIfInBounds_toArray, List.set_cons_zero, List.set_cons_succ])) | (refine HP.skip (by rfl) ?_; (try simp only [Act.put, List.setIfInBounds_toArray, List.set_cons_zero, List.set_cons_succ])))
          have rc0 := bz.c0; have rc1 := bz.c1
          have rf0 := bz.frozen 0
          have rf1 := bz.frozen 1
          have rf2 := bz.frozen 2
          have rf3 := bz.frozen 3
          have rlt := bz.lt
          refine HP.call ?_
          refine CallStep.mk (by rfl) (fun K hK => ?_)
          go_simp
          refine hK.out _ _ (by exact ⟨⟨((bL.far (p := ⟨gz, 0, none⟩) (by simp <;> omega) (.slice A9 r1 c9)).far (p := ⟨gz, 1, none⟩) (by simp <;> omega) (.slice B9 r2 d9)).c0, ((bL.far (p := ⟨gz, 0, none⟩) (by simp <;> omega) (.slice A9 r1 c9)).far (p := ⟨gz, 1, none⟩) (by simp <;> omega) (.slice B9 r2 d9)).c1⟩, ((bM.far (p := ⟨gz, 0, none⟩) (by simp <;> omega) (.slice A9 r1 c9)).far (p := ⟨gz, 1, none⟩) (by simp <;> omega) (.slice B9 r2 d9)).d6⟩) ?_
          clear hK K
          try simp only [Act.put, List.setIfInBounds_toArray, List.set_cons_zero, List.set_cons_succ]
          clear rc0 rc1 rf0 rf1 rf2 rf3
          repeat (first | (refine HP.take (v := ?_) (by rfl) ?_ ?_; rotate_left; (· (intro w hSw; (try dsimp only at hSw); go_simp; try with_reducible rfl)); (try simp only [Act.put, List.setIfInBounds_toArray, List.set_cons_zero, List.set_cons_succ])) | (refine HP.skip (by rfl) ?_; (try simp only [Act.put, List.setIfInBounds_toArray, List.set_cons_zero, List.set_cons_succ])))
          refine HP.done ?_
          have rq := (bz.set0 (.slice A9 r1 c9)).set1 (.slice B9 r2 d9)
          have hnf := (hXs.setCell (p := ⟨gz, 0, none⟩) (by show _ ≤ gz; omega) (.slice A9 r1 c9)).setCell (p := ⟨gz, 1, none⟩) (by show _ ≤ gz; omega) (.slice B9 r2 d9)
          have hSf := hS.two bz (.slice A9 r1 c9) (.slice B9 r2 d9)
          have hWf := hW.two bz (.slice A9 r1 c9) (.slice B9 r2 d9)
          generalize ((v3.setCell ⟨gz, 0, none⟩ (.slice A9 r1 c9)).setCell ⟨gz, 1, none⟩ (.slice B9 r2 d9)) = Wf at *
          exact key gz A9 c9 B9 d9 Wf Ai ci Bi di Aj cj Bj dj ⟨rq, hSf, hWf, by omega, hnf⟩
      · have bz := Box.new v1 35 #[.slice none 0 0, .slice none 0 0]
        have hz := (Nx.refl v1).alloc (.cells #[.slice none 0 0, .slice none 0 0] 35)
        have zlt : v1.heap.size < (v1.alloc (.cells #[.slice none 0 0, .slice none 0 0] 35)).heap.size := by simp
        have zhz := hz.size; replace bL := bL.nx hz; replace bM := bM.nx hz; replace hX := hX.trans hz; replace hXs := hXs.trans hz; (try replace bz := bz.nx hz); (try replace hiS := hiS.nx hz); (try replace hiW := hiW.nx hz); (try replace hjS := hjS.nx hz); (try replace hjM := hjM.nx hz); (try replace hS := hS.nx hz); (try replace hW := hW.nx hz)
        refine CallStep.mk (by rfl) (fun K hK => ?_)
        go_simp
        refine hK.out _ _ (by exact ⟨⟨bL.c0, bL.c1⟩, bM.d6⟩) ?_
        clear hK K
        try simp only [Act.put, List.setIfInBounds_toArray, List.set_cons_zero, List.set_cons_succ]
        change HP _ _ _ _ _ _ (v1.alloc (.cells #[.slice none 0 0, .slice none 0 0] 35))
        generalize v1.alloc (.cells #[.slice none 0 0, .slice none 0 0] 35) = Wz at *
        generalize v1.heap.size = gz at *
        clear hz
        refine HP.call ?_
        refine CallStep.mk (by rfl) (fun K hK => ?_)
        go_simp
        refine (toSuper_c g b p t Ax Am cx cm w.heap.size xs ms _ (hs.below hX (Nat.le_refl _)) (hmk.below hX (Nat.le_refl _)) hX.size hx' hm').mono ?_; rintro e v2 ⟨Aj, cj, Bj, dj, rfl, hcj, hjS, hjM, hv2⟩; have Hcj := Lib.hid hcj; clear hcj; have zhv2 := hv2.size; replace bL := bL.nx hv2; replace bM := bM.nx hv2; replace hX := hX.trans hv2; replace hXs := hXs.trans hv2; (try replace bz := bz.nx hv2); (try replace hiS := hiS.nx hv2); (try replace hiW := hiW.nx hv2); (try replace hjS := hjS.nx hv2); (try replace hjM := hjM.nx hv2); (try replace hS := hS.nx hv2); (try replace hW := hW.nx hv2)
        go_wp2_with fail
        refine hK.out _ _ (by exact ⟨⟨bL.c0, bL.c1⟩, bM.d6⟩) ?_
        clear hK K
        try simp only [Act.put, List.setIfInBounds_toArray, List.set_cons_zero, List.set_cons_succ]
        refine HP.call ?_
        refine CallStep.mk (by rfl) (fun K hK => ?_)
        go_simp
        refine (specCommitSuper_r Ai Bi n ci n2 di _ ss ws g b p t Aj Bj cj dj xs ms _ R1 R2 cd HPc.out hiS.strs hiW.wrs hjS.row hjM.row (Nat.le_refl _) hn' hn2' hx' hm' Hcj.out hmm).mono ?_; rintro e v3 ⟨A9, n9, c9, B9, m9, d9, rfl, hS, hW, hv3⟩; obtain rfl : r1 = n9 := Hr1.out.symm.trans hS.1; obtain rfl : r2 = m9 := Hr2.out.symm.trans hW.1; replace hS := hS.low (lo' := w2.heap.size) (by have := hXs.size; omega); replace hW := hW.low (lo' := w2.heap.size) (by have := hXs.size; omega); have zhv3 := hv3.size; replace bL := bL.nx hv3; replace bM := bM.nx hv3; replace hX := hX.trans hv3; replace hXs := hXs.trans hv3; (try replace bz := bz.nx hv3); (try replace hiS := hiS.nx hv3); (try replace hiW := hiW.nx hv3); (try replace hjS := hjS.nx hv3); (try replace hjM := hjM.nx hv3); (try replace hS := hS.nx hv3); (try replace hW := hW.nx hv3)
        go_wp2_with fail
        refine hK.out _ _ (by exact ⟨⟨bL.c0, bL.c1⟩, bM.d6⟩) ?_
        clear hK K
        try simp only [Act.put, List.setIfInBounds_toArray, List.set_cons_zero, List.set_cons_succ]
        repeat (first | (refine HP.take (v := ?_) (by rfl) ?_ ?_; rotate_left; (· (intro w hSw; (try dsimp only at hSw); go_simp; try with_reducible rfl)); (try simp only [Act.put, List.setIfInBounds_toArray, List.set_cons_zero, List.set_cons_succ])) | (refine HP.skip (by rfl) ?_; (try simp only [Act.put, List.setIfInBounds_toArray, List.set_cons_zero, List.set_cons_succ])))
        have rc0 := bz.c0; have rc1 := bz.c1
        have rf0 := bz.frozen 0
        have rf1 := bz.frozen 1
        have rf2 := bz.frozen 2
        have rf3 := bz.frozen 3
        have rlt := bz.lt
        refine HP.call ?_
        refine CallStep.mk (by rfl) (fun K hK => ?_)
        go_simp
        refine hK.out _ _ (by exact ⟨⟨((bL.far (p := ⟨gz, 0, none⟩) (by simp <;> omega) (.slice A9 r1 c9)).far (p := ⟨gz, 1, none⟩) (by simp <;> omega) (.slice B9 r2 d9)).c0, ((bL.far (p := ⟨gz, 0, none⟩) (by simp <;> omega) (.slice A9 r1 c9)).far (p := ⟨gz, 1, none⟩) (by simp <;> omega) (.slice B9 r2 d9)).c1⟩, ((bM.far (p := ⟨gz, 0, none⟩) (by simp <;> omega) (.slice A9 r1 c9)).far (p := ⟨gz, 1, none⟩) (by simp <;> omega) (.slice B9 r2 d9)).d6⟩) ?_
        clear hK K
        try simp only [Act.put, List.setIfInBounds_toArray, List.set_cons_zero, List.set_cons_succ]
        clear rc0 rc1 rf0 rf1 rf2 rf3
        repeat (first | (refine HP.take (v := ?_) (by rfl) ?_ ?_; rotate_left; (· (intro w hSw; (try dsimp only at hSw); go_simp; try with_reducible rfl)); (try simp only [Act.put, List.setIfInBounds_toArray, List.set_cons_zero, List.set_cons_succ])) | (refine HP.skip (by rfl) ?_; (try simp only [Act.put, List.setIfInBounds_toArray, List.set_cons_zero, List.set_cons_succ])))
        refine HP.done ?_
        have rq := (bz.set0 (.slice A9 r1 c9)).set1 (.slice B9 r2 d9)
        have hnf := (hXs.setCell (p := ⟨gz, 0, none⟩) (by show _ ≤ gz; omega) (.slice A9 r1 c9)).setCell (p := ⟨gz, 1, none⟩) (by show _ ≤ gz; omega) (.slice B9 r2 d9)
        have hSf := hS.two bz (.slice A9 r1 c9) (.slice B9 r2 d9)
        have hWf := hW.two bz (.slice A9 r1 c9) (.slice B9 r2 d9)
        generalize ((v3.setCell ⟨gz, 0, none⟩ (.slice A9 r1 c9)).setCell ⟨gz, 1, none⟩ (.slice B9 r2 d9)) = Wf at *
        exact key gz A9 c9 B9 d9 Wf Ai ci Bi di Aj cj Bj dj ⟨rq, hSf, hWf, by omega, hnf⟩
    · have bz := Box.new W0 35 #[.slice none 0 0, .slice none 0 0]
      have hz := (Nx.refl W0).alloc (.cells #[.slice none 0 0, .slice none 0 0] 35)
      have zlt : W0.heap.size < (W0.alloc (.cells #[.slice none 0 0, .slice none 0 0] 35)).heap.size := by simp
      have zhz := hz.size; replace bL := bL.nx hz; replace bM := bM.nx hz; replace hX := hX.trans hz; replace hXs := hXs.trans hz; (try replace bz := bz.nx hz); (try replace hiS := hiS.nx hz); (try replace hiW := hiW.nx hz); (try replace hjS := hjS.nx hz); (try replace hjM := hjM.nx hz); (try replace hS := hS.nx hz); (try replace hW := hW.nx hz)
      refine CallStep.mk (by rfl) (fun K hK => ?_)
      go_simp
      refine hK.out _ _ (by exact ⟨⟨bL.c0, bL.c1⟩, bM.d6⟩) ?_
      clear hK K
      try simp only [Act.put, List.setIfInBounds_toArray, List.set_cons_zero, List.set_cons_succ]
      change HP _ _ _ _ _ _ (W0.alloc (.cells #[.slice none 0 0, .slice none 0 0] 35))
      generalize W0.alloc (.cells #[.slice none 0 0, .slice none 0 0] 35) = Wz at *
      generalize W0.heap.size = gz at *
      clear hz
      refine HP.call ?_
      refine CallStep.mk (by rfl) (fun K hK => ?_)
      go_simp
      refine (toDisk_c A A2 n c n2 c2 w.heap.size ss ws _ (h.below hX (Nat.le_refl _)) (h2.below hX (Nat.le_refl _)) hX.size hn' hn2').mono ?_; rintro e v1 ⟨Ai, ni, ci, Bi, mi, di, rfl, hiS, hiW, hv1⟩; obtain rfl : n = ni := h.1.symm.trans hiS.1; obtain rfl : n2 = mi := h2.1.symm.trans hiW.1; have zhv1 := hv1.size; replace bL := bL.nx hv1; replace bM := bM.nx hv1; replace hX := hX.trans hv1; replace hXs := hXs.trans hv1; (try replace bz := bz.nx hv1); (try replace hiS := hiS.nx hv1); (try replace hiW := hiW.nx hv1); (try replace hjS := hjS.nx hv1); (try replace hjM := hjM.nx hv1); (try replace hS := hS.nx hv1); (try replace hW := hW.nx hv1)
      go_wp2_with fail
      refine hK.out _ _ (by exact ⟨⟨bL.c0, bL.c1⟩, bM.d6⟩) ?_
      clear hK K
      try simp only [Act.put, List.setIfInBounds_toArray, List.set_cons_zero, List.set_cons_succ]
      refine HP.call ?_
      refine CallStep.mk (by rfl) (fun K hK => ?_)
      go_simp
      refine (toSuper_c g b p t Ax Am cx cm w.heap.size xs ms _ (hs.below hX (Nat.le_refl _)) (hmk.below hX (Nat.le_refl _)) hX.size hx' hm').mono ?_; rintro e v2 ⟨Aj, cj, Bj, dj, rfl, hcj, hjS, hjM, hv2⟩; have Hcj := Lib.hid hcj; clear hcj; have zhv2 := hv2.size; replace bL := bL.nx hv2; replace bM := bM.nx hv2; replace hX := hX.trans hv2; replace hXs := hXs.trans hv2; (try replace bz := bz.nx hv2); (try replace hiS := hiS.nx hv2); (try replace hiW := hiW.nx hv2); (try replace hjS := hjS.nx hv2); (try replace hjM := hjM.nx hv2); (try replace hS := hS.nx hv2); (try replace hW := hW.nx hv2)
      go_wp2_with fail
      refine hK.out _ _ (by exact ⟨⟨bL.c0, bL.c1⟩, bM.d6⟩) ?_
      clear hK K
      try simp only [Act.put, List.setIfInBounds_toArray, List.set_cons_zero, List.set_cons_succ]
      refine HP.call ?_
      refine CallStep.mk (by rfl) (fun K hK => ?_)
      go_simp
      refine (specCommitSuper_r Ai Bi n ci n2 di _ ss ws g b p t Aj Bj cj dj xs ms _ R1 R2 cd HPc.out hiS.strs hiW.wrs hjS.row hjM.row (Nat.le_refl _) hn' hn2' hx' hm' Hcj.out hmm).mono ?_; rintro e v3 ⟨A9, n9, c9, B9, m9, d9, rfl, hS, hW, hv3⟩; obtain rfl : r1 = n9 := Hr1.out.symm.trans hS.1; obtain rfl : r2 = m9 := Hr2.out.symm.trans hW.1; replace hS := hS.low (lo' := w2.heap.size) (by have := hXs.size; omega); replace hW := hW.low (lo' := w2.heap.size) (by have := hXs.size; omega); have zhv3 := hv3.size; replace bL := bL.nx hv3; replace bM := bM.nx hv3; replace hX := hX.trans hv3; replace hXs := hXs.trans hv3; (try replace bz := bz.nx hv3); (try replace hiS := hiS.nx hv3); (try replace hiW := hiW.nx hv3); (try replace hjS := hjS.nx hv3); (try replace hjM := hjM.nx hv3); (try replace hS := hS.nx hv3); (try replace hW := hW.nx hv3)
      go_wp2_with fail
      refine hK.out _ _ (by exact ⟨⟨bL.c0, bL.c1⟩, bM.d6⟩) ?_
      clear hK K
      try simp only [Act.put, List.setIfInBounds_toArray, List.set_cons_zero, List.set_cons_succ]
      repeat (first | (refine HP.take (v := ?_) (by rfl) ?_ ?_; rotate_left; (· (intro w hSw; (try dsimp only at hSw); go_simp; try with_reducible rfl)); (try simp only [Act.put, List.setIfInBounds_toArray, List.set_cons_zero, List.set_cons_succ])) | (refine HP.skip (by rfl) ?_; (try simp only [Act.put, List.setIfInBounds_toArray, List.set_cons_zero, List.set_cons_succ])))
      have rc0 := bz.c0; have rc1 := bz.c1
      have rf0 := bz.frozen 0
      have rf1 := bz.frozen 1
      have rf2 := bz.frozen 2
      have rf3 := bz.frozen 3
      have rlt := bz.lt
      refine HP.call ?_
      refine CallStep.mk (by rfl) (fun K hK => ?_)
      go_simp
      refine hK.out _ _ (by exact ⟨⟨((bL.far (p := ⟨gz, 0, none⟩) (by simp <;> omega) (.slice A9 r1 c9)).far (p := ⟨gz, 1, none⟩) (by simp <;> omega) (.slice B9 r2 d9)).c0, ((bL.far (p := ⟨gz, 0, none⟩) (by simp <;> omega) (.slice A9 r1 c9)).far (p := ⟨gz, 1, none⟩) (by simp <;> omega) (.slice B9 r2 d9)).c1⟩, ((bM.far (p := ⟨gz, 0, none⟩) (by simp <;> omega) (.slice A9 r1 c9)).far (p := ⟨gz, 1, none⟩) (by simp <;> omega) (.slice B9 r2 d9)).d6⟩) ?_
      clear hK K
      try simp only [Act.put, List.setIfInBounds_toArray, List.set_cons_zero, List.set_cons_succ]
      clear rc0 rc1 rf0 rf1 rf2 rf3
      repeat (first | (refine HP.take (v := ?_) (by rfl) ?_ ?_; rotate_left; (· (intro w hSw; (try dsimp only at hSw); go_simp; try with_reducible rfl)); (try simp only [Act.put, List.setIfInBounds_toArray, List.set_cons_zero, List.set_cons_succ])) | (refine HP.skip (by rfl) ?_; (try simp only [Act.put, List.setIfInBounds_toArray, List.set_cons_zero, List.set_cons_succ])))
      refine HP.done ?_
      have rq := (bz.set0 (.slice A9 r1 c9)).set1 (.slice B9 r2 d9)
      have hnf := (hXs.setCell (p := ⟨gz, 0, none⟩) (by show _ ≤ gz; omega) (.slice A9 r1 c9)).setCell (p := ⟨gz, 1, none⟩) (by show _ ≤ gz; omega) (.slice B9 r2 d9)
      have hSf := hS.two bz (.slice A9 r1 c9) (.slice B9 r2 d9)
      have hWf := hW.two bz (.slice A9 r1 c9) (.slice B9 r2 d9)
      generalize ((v3.setCell ⟨gz, 0, none⟩ (.slice A9 r1 c9)).setCell ⟨gz, 1, none⟩ (.slice B9 r2 d9)) = Wf at *
      exact key gz A9 c9 B9 d9 Wf Ai ci Bi di Aj cj Bj dj ⟨rq, hSf, hWf, by omega, hnf⟩
  intro gW A5 c5 B5 d5 W5 Ai5 ci5 Bi5 di5 Aj5 cj5 Bj5 dj5 ⟨bW, hS5, hW5, hgW, hxr5⟩
  have zb5 := bW.lt
  have zhxr5 := hxr5.size; replace bL := bL.nx hxr5; replace bM := bM.nx hxr5; replace hX := hX.trans hxr5
  replace hS5 := hS5.sr
  replace hW5 := hW5.sr
  clear hxr5
  clear hd1 hd2
  have lc0 := bL.c0
  have lc1 := bL.c1
  go_wp2_with fail
  refine (toDisk_c A A2 n c n2 c2 w.heap.size ss ws _ (h.below hX (Nat.le_refl _)) (h2.below hX (Nat.le_refl _)) hX.size hn' hn2').mono ?_; rintro e w4 ⟨A6, n6, c6, B6, m6, d6, rfl, hS6, hW6, hx4⟩
  obtain rfl : n = n6 := h.1.symm.trans hS6.1
  obtain rfl : n2 = m6 := h2.1.symm.trans hW6.1
  replace hS6 := hS6.sr
  replace hW6 := hW6.sr
  have zhx4 := hx4.size; replace bL := bL.nx hx4; replace bM := bM.nx hx4; replace hS5 := hS5.nx hx4; replace hW5 := hW5.nx hx4; replace bW := bW.nx hx4; replace hX := hX.trans hx4
  clear lc0 lc1
  obtain ⟨lc0, lc1, lc2, lc3, lc4, lc5⟩ := bM.d6
  have zlM := bM.lt
  go_wp2_with fail
  have bX := Box.new w4 35 #[.slice A6 n c6, .slice B6 n2 d6]
  have hxa := (Nx.refl w4).alloc (.cells #[.slice A6 n c6, .slice B6 n2 d6] 35)
  have zbX : w4.heap.size < (w4.alloc (.cells #[.slice A6 n c6, .slice B6 n2 d6] 35)).heap.size := by simp
  have zhxa := hxa.size; replace bL := bL.nx hxa; replace bM := bM.nx hxa; replace hS5 := hS5.nx hxa; replace hW5 := hW5.nx hxa; replace bW := bW.nx hxa; replace hS6 := hS6.nx hxa; replace hW6 := hW6.nx hxa; replace hX := hX.trans hxa
  clear hxa zhxa
  generalize w4.alloc (.cells #[.slice A6 n c6, .slice B6 n2 d6] 35) = W4 at *
  clear lc0 lc1 lc2 lc3 lc4 lc5
  refine (toSuper_c g b p t Ax Am cx cm w.heap.size xs ms _ (hs.below hX (Nat.le_refl _)) (hmk.below hX (Nat.le_refl _)) hX.size hx' hm').mono ?_; rintro e w5 ⟨A7, c7, B7, d7, rfl, hc7, hS7, hM7, hx5⟩
  have Hc7 := Lib.hid hc7
  clear hc7
  replace hS7 := hS7.sr
  replace hM7 := hM7.sr
  have zhx5 := hx5.size; replace bL := bL.nx hx5; replace bM := bM.nx hx5; replace hS5 := hS5.nx hx5; replace hW5 := hW5.nx hx5; replace bW := bW.nx hx5; replace hS6 := hS6.nx hx5; replace hW6 := hW6.nx hx5; replace bX := bX.nx hx5; replace hX := hX.trans hx5
  have lc0 := bX.c0
  have lc1 := bX.c1
  have zlX := bX.lt
  go_wp2_with fail
  have bY := Box.new w5 26 #[.int .i64 g, .int .i64 b, .int .i64 p, .int .i64 t, .slice A7 xs.length c7, .slice B7 ms.length d7]
  have hxa := (Nx.refl w5).alloc (.cells #[.int .i64 g, .int .i64 b, .int .i64 p, .int .i64 t, .slice A7 xs.length c7, .slice B7 ms.length d7] 26)
  have zbY : w5.heap.size < (w5.alloc (.cells #[.int .i64 g, .int .i64 b, .int .i64 p, .int .i64 t, .slice A7 xs.length c7, .slice B7 ms.length d7] 26)).heap.size := by simp
  have zhxa := hxa.size; replace bL := bL.nx hxa; replace bM := bM.nx hxa; replace hS5 := hS5.nx hxa; replace hW5 := hW5.nx hxa; replace bW := bW.nx hxa; replace hS6 := hS6.nx hxa; replace hW6 := hW6.nx hxa; replace bX := bX.nx hxa; replace hS7 := hS7.nx hxa; replace hM7 := hM7.nx hxa; replace hX := hX.trans hxa
  clear hxa zhxa
  generalize w5.alloc (.cells #[.int .i64 g, .int .i64 b, .int .i64 p, .int .i64 t, .slice A7 xs.length c7, .slice B7 ms.length d7] 26) = W6 at *
  clear lc0 lc1
  refine (implCommitSuper_r A6 B6 n c6 n2 d6 _ ss ws g b p t A7 B7 c7 d7 xs ms _ a0 a1 R1 R2 cd HPc.out hS6.sl.strs hW6.sl.wrs hS7.sl.row hM7.sl.row (Nat.le_refl _) hn' hn2' hx' hm' Hc7.out hmm (hE.nx hX) (hM.nx hX) (hEt.nx hX) (hT.nx hX)).mono ?_
  rintro e w6 ⟨A8, n8, c8, B8, m8, d8, rfl, hS8, hW8, hx6⟩
  obtain rfl : r1 = n8 := Hr1.out.symm.trans hS8.1
  obtain rfl : r2 = m8 := Hr2.out.symm.trans hW8.1
  replace hS8 := hS8.sr
  replace hW8 := hW8.sr
  have zhx6 := hx6.size; replace bL := bL.nx hx6; replace bM := bM.nx hx6; replace hS5 := hS5.nx hx6; replace hW5 := hW5.nx hx6; replace bW := bW.nx hx6; replace hS6 := hS6.nx hx6; replace hW6 := hW6.nx hx6; replace bX := bX.nx hx6; replace hS7 := hS7.nx hx6; replace hM7 := hM7.nx hx6; replace bY := bY.nx hx6; replace hX := hX.trans hx6
  have lc0 := bW.c0
  have lc1 := bW.c1
  have zlW := bW.lt
  go_wp2_with fail
  have bG := Box.new w6 35 #[.slice A8 r1 c8, .slice B8 r2 d8]
  have hxa := (Nx.refl w6).alloc (.cells #[.slice A8 r1 c8, .slice B8 r2 d8] 35)
  have zbG : w6.heap.size < (w6.alloc (.cells #[.slice A8 r1 c8, .slice B8 r2 d8] 35)).heap.size := by simp
  have zhxa := hxa.size; replace bL := bL.nx hxa; replace bM := bM.nx hxa; replace hS5 := hS5.nx hxa; replace hW5 := hW5.nx hxa; replace bW := bW.nx hxa; replace hS6 := hS6.nx hxa; replace hW6 := hW6.nx hxa; replace bX := bX.nx hxa; replace hS7 := hS7.nx hxa; replace hM7 := hM7.nx hxa; replace bY := bY.nx hxa; replace hS8 := hS8.nx hxa; replace hW8 := hW8.nx hxa; replace hX := hX.trans hxa
  clear hxa zhxa
  generalize w6.alloc (.cells #[.slice A8 r1 c8, .slice B8 r2 d8] 35) = W7 at *
  clear lc0 lc1
  refine (eqDisk_c A8 B8 A5 B5 r1 c8 c5 r2 d8 d5 _ R1 R2 _ hS8.sl.strs hS5.sl.strs hW8.sl.wrs hW5.sl.wrs (Nat.le_refl _) hr1 hr2).mono ?_
  rintro e w7 ⟨rfl, hx7⟩
  have zhx7 := hx7.size; replace bL := bL.nx hx7; replace bM := bM.nx hx7; replace hS5 := hS5.nx hx7; replace hW5 := hW5.nx hx7; replace bW := bW.nx hx7; replace hS6 := hS6.nx hx7; replace hW6 := hW6.nx hx7; replace bX := bX.nx hx7; replace hS7 := hS7.nx hx7; replace hM7 := hM7.nx hx7; replace bY := bY.nx hx7; replace hS8 := hS8.nx hx7; replace hW8 := hW8.nx hx7; replace bG := bG.nx hx7; replace hX := hX.trans hx7
  clear zlM zlX zlW
  have hdr : Nx w7 w7.drew := (Nx.refl _).drew
  have zhdr := hdr.size; replace bL := bL.nx hdr; replace bM := bM.nx hdr; replace hS5 := hS5.nx hdr; replace hW5 := hW5.nx hdr; replace bW := bW.nx hdr; replace hS6 := hS6.nx hdr; replace hW6 := hW6.nx hdr; replace bX := bX.nx hdr; replace hS7 := hS7.nx hdr; replace hM7 := hM7.nx hdr; replace bY := bY.nx hdr; replace hS8 := hS8.nx hdr; replace hW8 := hW8.nx hdr; replace bG := bG.nx hdr; replace hX := hX.trans hdr
  clear hdr
  replace bL : Box w7.drew w.heap.size 49 #[.slice A n c, .slice A2 n2 c2] := bL
  replace bM : Box w7.drew (w.heap.size + 1) 58 #[.int .i64 g, .int .i64 b, .int .i64 p, .int .i64 t, .slice Ax xs.length cx, .slice Am ms.length cm] := bM
  replace bW : Box w7.drew gW 35 #[.slice A5 r1 c5, .slice B5 r2 d5] := bW
  replace bX : Box w7.drew w4.heap.size 35 #[.slice A6 n c6, .slice B6 n2 d6] := bX
  replace bY : Box w7.drew w5.heap.size 26 #[.int .i64 g, .int .i64 b, .int .i64 p, .int .i64 t, .slice A7 xs.length c7, .slice B7 ms.length d7] := bY
  replace bG : Box w7.drew w6.heap.size 35 #[.slice A8 r1 c8, .slice B8 r2 d8] := bG
  go_wp2_with fail
  refine wp_region_lex [false, false, true, true, false] (fun w' => (w'.cell? ⟨w4.heap.size, 0, none⟩ = some (.slice A6 n c6) ∧ w'.cell? ⟨w4.heap.size, 1, none⟩ = some (.slice B6 n2 d6)) ∧ (w'.cell? ⟨w.heap.size, 0, none⟩ = some (.slice A n c) ∧ w'.cell? ⟨w.heap.size, 1, none⟩ = some (.slice A2 n2 c2))) (by kernel_rfl) (by kernel_rfl) rfl (by kernel_rfl) (fun _ _ d _ _ h => by cases d <;> exact h) (by exact ⟨⟨bX.c0, bX.c1⟩, ⟨bL.c0, bL.c1⟩⟩) ?_
  repeat (first | (refine HL.take (v := ?_) (by rfl) ?_ ?_; rotate_left; (· (intro w hSw; (try dsimp only at hSw); go_simp; try with_reducible rfl)); (try simp only [Act.put, List.setIfInBounds_toArray, List.set_cons_zero, List.set_cons_succ])) | (refine HL.skip (by rfl) ?_; (try simp only [Act.put, List.setIfInBounds_toArray, List.set_cons_zero, List.set_cons_succ])))
  refine HL.call (by rfl) (fun K hK => ?_)
  go_simp
  refine (toDisk_c A A2 n c n2 c2 w.heap.size ss ws _ (h.below hX (Nat.le_refl _)) (h2.below hX (Nat.le_refl _)) hX.size hn' hn2').mono ?_; rintro e y1 ⟨Ay, ny, cy, By, my, dy, rfl, hSy, hWy, hy1⟩; obtain rfl : n = ny := h.1.symm.trans hSy.1; obtain rfl : n2 = my := h2.1.symm.trans hWy.1; have zhy1 := hy1.size; replace bL := bL.nx hy1; replace bM := bM.nx hy1; replace hS5 := hS5.nx hy1; replace hW5 := hW5.nx hy1; replace bW := bW.nx hy1; replace hS6 := hS6.nx hy1; replace hW6 := hW6.nx hy1; replace bX := bX.nx hy1; replace hS7 := hS7.nx hy1; replace hM7 := hM7.nx hy1; replace bY := bY.nx hy1; replace hS8 := hS8.nx hy1; replace hW8 := hW8.nx hy1; replace bG := bG.nx hy1; replace hX := hX.trans hy1
  go_wp2_with fail
  refine hK.out _ _ (by exact ⟨⟨bX.c0, bX.c1⟩, ⟨bL.c0, bL.c1⟩⟩) ?_
  clear hK K
  try simp only [Act.put, List.setIfInBounds_toArray, List.set_cons_zero, List.set_cons_succ]
  refine HL.call (by rfl) (fun K hK => ?_)
  go_simp
  refine (eqDisk_c A6 B6 Ay By n c6 cy n2 d6 dy _ ss ws _ hS6.sl.strs hSy.strs hW6.sl.wrs hWy.wrs (Nat.le_refl _) hn' hn2').mono ?_; rintro e x1 ⟨rfl, hx1q⟩; have zhx1q := hx1q.size; replace bL := bL.nx hx1q; replace bM := bM.nx hx1q; replace hS5 := hS5.nx hx1q; replace hW5 := hW5.nx hx1q; replace bW := bW.nx hx1q; replace hS6 := hS6.nx hx1q; replace hW6 := hW6.nx hx1q; replace bX := bX.nx hx1q; replace hS7 := hS7.nx hx1q; replace hM7 := hM7.nx hx1q; replace bY := bY.nx hx1q; replace hS8 := hS8.nx hx1q; replace hW8 := hW8.nx hx1q; replace bG := bG.nx hx1q; replace hX := hX.trans hx1q
  go_wp2_with fail
  refine hK.out _ _ (by exact ⟨⟨bX.c0, bX.c1⟩, ⟨bL.c0, bL.c1⟩⟩) ?_
  clear hK K
  try simp only [Act.put, List.setIfInBounds_toArray, List.set_cons_zero, List.set_cons_succ]
  repeat (first | (refine HL.take (v := ?_) (by rfl) ?_ ?_; rotate_left; (· (intro w hSw; (try dsimp only at hSw); go_simp; try with_reducible rfl)); (try simp only [Act.put, List.setIfInBounds_toArray, List.set_cons_zero, List.set_cons_succ])) | (refine HL.skip (by rfl) ?_; (try simp only [Act.put, List.setIfInBounds_toArray, List.set_cons_zero, List.set_cons_succ])))
  refine HL.done ?_
  clear hSy hWy
  have hdr : Nx x1 x1.drew := (Nx.refl _).drew
  have zhdr := hdr.size; replace bL := bL.nx hdr; replace bM := bM.nx hdr; replace hS5 := hS5.nx hdr; replace hW5 := hW5.nx hdr; replace bW := bW.nx hdr; replace hS6 := hS6.nx hdr; replace hW6 := hW6.nx hdr; replace bX := bX.nx hdr; replace hS7 := hS7.nx hdr; replace hM7 := hM7.nx hdr; replace bY := bY.nx hdr; replace hS8 := hS8.nx hdr; replace hW8 := hW8.nx hdr; replace bG := bG.nx hdr; replace hX := hX.trans hdr
  clear hdr
  replace bL : Box x1.drew w.heap.size 49 #[.slice A n c, .slice A2 n2 c2] := bL
  replace bM : Box x1.drew (w.heap.size + 1) 58 #[.int .i64 g, .int .i64 b, .int .i64 p, .int .i64 t, .slice Ax xs.length cx, .slice Am ms.length cm] := bM
  replace bW : Box x1.drew gW 35 #[.slice A5 r1 c5, .slice B5 r2 d5] := bW
  replace bX : Box x1.drew w4.heap.size 35 #[.slice A6 n c6, .slice B6 n2 d6] := bX
  replace bY : Box x1.drew w5.heap.size 26 #[.int .i64 g, .int .i64 b, .int .i64 p, .int .i64 t, .slice A7 xs.length c7, .slice B7 ms.length d7] := bY
  replace bG : Box x1.drew w6.heap.size 35 #[.slice A8 r1 c8, .slice B8 r2 d8] := bG
  go_wp2_with fail
  refine wp_region_lex [false, false, true, true, false] (fun w' => (w'.cell? ⟨w5.heap.size, 0, none⟩ = some (.int .i64 g) ∧ w'.cell? ⟨w5.heap.size, 1, none⟩ = some (.int .i64 b) ∧ w'.cell? ⟨w5.heap.size, 2, none⟩ = some (.int .i64 p) ∧ w'.cell? ⟨w5.heap.size, 3, none⟩ = some (.int .i64 t) ∧ w'.cell? ⟨w5.heap.size, 4, none⟩ = some (.slice A7 xs.length c7) ∧ w'.cell? ⟨w5.heap.size, 5, none⟩ = some (.slice B7 ms.length d7)) ∧ (w'.cell? ⟨(w.heap.size + 1), 0, none⟩ = some (.int .i64 g) ∧ w'.cell? ⟨(w.heap.size + 1), 1, none⟩ = some (.int .i64 b) ∧ w'.cell? ⟨(w.heap.size + 1), 2, none⟩ = some (.int .i64 p) ∧ w'.cell? ⟨(w.heap.size + 1), 3, none⟩ = some (.int .i64 t) ∧ w'.cell? ⟨(w.heap.size + 1), 4, none⟩ = some (.slice Ax xs.length cx) ∧ w'.cell? ⟨(w.heap.size + 1), 5, none⟩ = some (.slice Am ms.length cm))) (by kernel_rfl) (by kernel_rfl) rfl (by kernel_rfl) (fun _ _ d _ _ h => by cases d <;> exact h) (by exact ⟨bY.d6, bM.d6⟩) ?_
  repeat (first | (refine HL.take (v := ?_) (by rfl) ?_ ?_; rotate_left; (· (intro w hSw; (try dsimp only at hSw); go_simp; try with_reducible rfl)); (try simp only [Act.put, List.setIfInBounds_toArray, List.set_cons_zero, List.set_cons_succ])) | (refine HL.skip (by rfl) ?_; (try simp only [Act.put, List.setIfInBounds_toArray, List.set_cons_zero, List.set_cons_succ])))
  refine HL.call (by rfl) (fun K hK => ?_)
  go_simp
  refine (toSuper_c g b p t Ax Am cx cm w.heap.size xs ms _ (hs.below hX (Nat.le_refl _)) (hmk.below hX (Nat.le_refl _)) hX.size hx' hm').mono ?_; rintro e y2 ⟨Az, cz, Bz, dz, rfl, hcz, hSz, hMz, hy2⟩; clear hcz; have zhy2 := hy2.size; replace bL := bL.nx hy2; replace bM := bM.nx hy2; replace hS5 := hS5.nx hy2; replace hW5 := hW5.nx hy2; replace bW := bW.nx hy2; replace hS6 := hS6.nx hy2; replace hW6 := hW6.nx hy2; replace bX := bX.nx hy2; replace hS7 := hS7.nx hy2; replace hM7 := hM7.nx hy2; replace bY := bY.nx hy2; replace hS8 := hS8.nx hy2; replace hW8 := hW8.nx hy2; replace bG := bG.nx hy2; replace hX := hX.trans hy2
  go_wp2_with fail
  refine hK.out _ _ (by exact ⟨bY.d6, bM.d6⟩) ?_
  clear hK K
  try simp only [Act.put, List.setIfInBounds_toArray, List.set_cons_zero, List.set_cons_succ]
  refine HL.call (by rfl) (fun K hK => ?_)
  go_simp
  refine (eqSuper_c g b p t A7 B7 Az Bz c7 d7 cz dz _ xs ms _ hS7.sl.row hM7.sl.row hSz.row hMz.row (Nat.le_refl _) hx' hm').mono ?_; rintro e x2 ⟨rfl, hx2q⟩; have zhx2q := hx2q.size; replace bL := bL.nx hx2q; replace bM := bM.nx hx2q; replace hS5 := hS5.nx hx2q; replace hW5 := hW5.nx hx2q; replace bW := bW.nx hx2q; replace hS6 := hS6.nx hx2q; replace hW6 := hW6.nx hx2q; replace bX := bX.nx hx2q; replace hS7 := hS7.nx hx2q; replace hM7 := hM7.nx hx2q; replace bY := bY.nx hx2q; replace hS8 := hS8.nx hx2q; replace hW8 := hW8.nx hx2q; replace bG := bG.nx hx2q; replace hX := hX.trans hx2q
  go_wp2_with fail
  refine hK.out _ _ (by exact ⟨bY.d6, bM.d6⟩) ?_
  clear hK K
  try simp only [Act.put, List.setIfInBounds_toArray, List.set_cons_zero, List.set_cons_succ]
  repeat (first | (refine HL.take (v := ?_) (by rfl) ?_ ?_; rotate_left; (· (intro w hSw; (try dsimp only at hSw); go_simp; try with_reducible rfl)); (try simp only [Act.put, List.setIfInBounds_toArray, List.set_cons_zero, List.set_cons_succ])) | (refine HL.skip (by rfl) ?_; (try simp only [Act.put, List.setIfInBounds_toArray, List.set_cons_zero, List.set_cons_succ])))
  refine HL.done ?_
  clear hSz hMz
  have lc0 := bX.c0
  have lc1 := bX.c1
  go_wp2_with fail
  refine (markDisk_c A6 B6 n c6 n2 d6 1 _ _ ss ws _ hS6 hW6 (by omega) hn' hn2' (by omega)).mono ?_
  rintro e wc ⟨rfl, hmS, hmW, hr1m⟩
  have zhr1m := hr1m.size; replace bL := bL.rg hr1m (by omega); replace bM := bM.rg hr1m (by omega); replace hS5 := hS5.rg hr1m (by omega); replace hW5 := hW5.rg hr1m (by omega); replace bW := bW.rg hr1m (by omega); replace bX := bX.rg hr1m (by omega); replace hS7 := hS7.rg hr1m (by omega); replace hM7 := hM7.rg hr1m (by omega); replace bY := bY.rg hr1m (by omega); replace hS8 := hS8.rg hr1m (by omega); replace hW8 := hW8.rg hr1m (by omega); replace bG := bG.rg hr1m (by omega); replace hX := Rg.nx_of hX hr1m (by omega)
  clear hS6 hW6 hmS hmW
  clear lc0 lc1
  obtain ⟨k1, Hk1⟩ : ∃ q, Hid (1 + n + n2 * 2 = q) := ⟨_, rfl⟩
  have hk1 : k1 ≤ 3145729 := by have := Hk1.out; omega
  rw [Hk1.out]
  obtain ⟨lc0, lc1, lc2, lc3, lc4, lc5⟩ := bY.d6
  go_wp2_with fail
  refine (markSuper_c g b p t A7 B7 xs.length c7 ms.length d7 k1 _ _ _ _ _ hS7 hM7 (by omega) hx' hm' (by omega)).mono ?_
  rintro e wd ⟨rfl, hmS, hmM, hr2m⟩
  have zhr2m := hr2m.size; replace bL := bL.rg hr2m (by omega); replace bM := bM.rg hr2m (by omega); replace hS5 := hS5.rg hr2m (by omega); replace hW5 := hW5.rg hr2m (by omega); replace bW := bW.rg hr2m (by omega); replace bX := bX.rg hr2m (by omega); replace bY := bY.rg hr2m (by omega); replace hS8 := hS8.rg hr2m (by omega); replace hW8 := hW8.rg hr2m (by omega); replace bG := bG.rg hr2m (by omega); replace hX := Rg.nx_of hX hr2m (by omega)
  clear hS7 hM7 hmS hmM
  clear lc0 lc1 lc2 lc3 lc4 lc5
  obtain ⟨k2, Hk2⟩ : ∃ q, Hid (k1 + xs.length + ms.length * 2 = q) := ⟨_, rfl⟩
  rw [Hk2.out]
  have hd4 : decide ((k2 : Int) < 0) = false := by simp
  have lc0 := bW.c0
  have lc1 := bW.c1
  have nc0 := bG.c0
  have nc1 := bG.c1
  go_wp2_with fail
  refine (eqDisk_c A8 B8 A5 B5 r1 c8 c5 r2 d8 d5 _ R1 R2 _ hS8.sl.strs hS5.sl.strs hW8.sl.wrs hW5.sl.wrs (Nat.le_refl _) hr1 hr2).mono ?_
  rintro e we ⟨rfl, hxe⟩
  have zhxe := hxe.size; replace bL := bL.nx hxe; replace bM := bM.nx hxe; replace hS5 := hS5.nx hxe; replace hW5 := hW5.nx hxe; replace bW := bW.nx hxe; replace bX := bX.nx hxe; replace bY := bY.nx hxe; replace hS8 := hS8.nx hxe; replace hW8 := hW8.nx hxe; replace bG := bG.nx hxe; replace hX := hX.trans hxe
  clear lc0 lc1 nc0 nc1
  have nc0 := bG.c0
  have nc1 := bG.c1
  go_wp2_with fail
  refine (markDisk_c A8 B8 r1 c8 r2 d8 1 _ _ R1 R2 _ hS8 hW8 (by omega) hr1 hr2 (by omega)).mono ?_
  rintro e wf ⟨rfl, hS8b, hW8b, hr3m⟩
  have zhr3m := hr3m.size; replace bL := bL.rg hr3m (by omega); replace bM := bM.rg hr3m (by omega); replace hS5 := hS5.rg hr3m (by omega); replace hW5 := hW5.rg hr3m (by omega); replace bW := bW.rg hr3m (by omega); replace bX := bX.rg hr3m (by omega); replace bY := bY.rg hr3m (by omega); replace bG := bG.rg hr3m (by omega); replace hX := Rg.nx_of hX hr3m (by omega)
  clear hS8 hW8
  clear nc0 nc1
  obtain ⟨k3, Hk3⟩ : ∃ q, Hid (1 + r1 + r2 * 2 = q) := ⟨_, rfl⟩
  have hd3 : decide ((k3 : Int) < 0) = false := by simp
  rw [Hk3.out]
  have nc0 := bG.c0
  have nc1 := bG.c1
  go_wp2_with fail
  refine (heldDisk_c A8 B8 r1 c8 r2 d8 1 _ _ hS8b.sl.strs hW8b.sl.wrs (Nat.le_refl _) hr1 hr2 (by omega)).mono ?_
  rintro e wh ⟨rfl, hxh⟩
  rw [Hk3.out]
  have zhxh := hxh.size; replace bL := bL.nx hxh; replace bM := bM.nx hxh; replace hS5 := hS5.nx hxh; replace hW5 := hW5.nx hxh; replace bW := bW.nx hxh; replace bX := bX.nx hxh; replace bY := bY.nx hxh; replace bG := bG.nx hxh; replace hS8b := hS8b.nx hxh; replace hW8b := hW8b.nx hxh; replace hX := hX.trans hxh
  clear nc0 nc1
  go_wp2_with fail
  refine merge14 (F := (fun gq Aq cq Bq dq Wq => Box Wq gq 35 #[.slice Aq r1 cq, .slice Bq r2 dq] ∧ SlS Wq wh.heap.size Aq r1 R1 ∧ SlW Wq wh.heap.size Bq r2 R2 ∧ wh.heap.size ≤ gq ∧ Nx wh Wq)) (G := ?_) (fun key => ?_) ?_
  rotate_left
  · have hXs : Nx wh wh.drew := (Nx.refl wh).drew
    have hXk := hX
    have hX := hXk.drew
    clear hXk
    have zd : wh.heap.size ≤ wh.drew.heap.size := Nat.le_refl _
    have bLk := bL
    have bL : Box wh.drew w.heap.size 49 #[.slice A n c, .slice A2 n2 c2] := bLk
    clear bLk
    have bMk := bM
    have bM : Box wh.drew (w.heap.size + 1) 58 #[.int .i64 g, .int .i64 b, .int .i64 p, .int .i64 t, .slice Ax xs.length cx, .slice Am ms.length cm] := bMk
    clear bMk
    have zbl := bM.lt
    refine wp_region_plan (.t 0 (.t 2 (.b 1 (.b 3 (.b 4 (.t 5 (.t 6 (.t 7 (.c 8 (.c 9 (.t 10 .e)))))) 8 (.c 4 (.t 5 (.t 6 (.t 7 (.c 9 (.t 10 .e))))))) 8 (.c 3 (.c 4 (.t 5 (.t 6 (.t 7 (.c 9 (.t 10 .e)))))))) 8 (.c 1 (.c 3 (.c 4 (.t 5 (.t 6 (.t 7 (.c 9 (.t 10 .e))))))))))) (fun w' => (w'.cell? ⟨w.heap.size, 0, none⟩ = some (.slice A n c) ∧ w'.cell? ⟨w.heap.size, 1, none⟩ = some (.slice A2 n2 c2)) ∧ (w'.cell? ⟨(w.heap.size + 1), 0, none⟩ = some (.int .i64 g) ∧ w'.cell? ⟨(w.heap.size + 1), 1, none⟩ = some (.int .i64 b) ∧ w'.cell? ⟨(w.heap.size + 1), 2, none⟩ = some (.int .i64 p) ∧ w'.cell? ⟨(w.heap.size + 1), 3, none⟩ = some (.int .i64 t) ∧ w'.cell? ⟨(w.heap.size + 1), 4, none⟩ = some (.slice Ax xs.length cx) ∧ w'.cell? ⟨(w.heap.size + 1), 5, none⟩ = some (.slice Am ms.length cm))) (by kernel_rfl) (by kernel_rfl) rfl (by kernel_rfl) (fun _ _ d _ _ h => by cases d <;> exact h) (by exact ⟨⟨bL.c0, bL.c1⟩, bM.d6⟩) ?_
    simp only [psOf, List.getD_cons_zero, List.getD_cons_succ]
    generalize wh.drew = W0 at *
    repeat (first | (refine HP.take (v := ?_) (by rfl) ?_ ?_; rotate_left; (· (intro w hSw; (try dsimp only at hSw); go_simp; try with_reducible rfl)); (try simp only [Act.put, List.setIfInBounds_toArray, List.set_cons_zero, List.set_cons_succ])) | (refine HP.skip (by rfl) ?_; (try simp only [Act.put, List.setIfInBounds_toArray, List.set_cons_zero, List.set_cons_succ])))
    refine HP.both ?_ ?_
    · refine CallStep.mk (by rfl) (fun K hK => ?_)
      go_simp
      refine (toDisk_c A A2 n c n2 c2 w.heap.size ss ws _ (h.below hX (Nat.le_refl _)) (h2.below hX (Nat.le_refl _)) hX.size hn' hn2').mono ?_; rintro e v1 ⟨Ai, ni, ci, Bi, mi, di, rfl, hiS, hiW, hv1⟩; obtain rfl : n = ni := h.1.symm.trans hiS.1; obtain rfl : n2 = mi := h2.1.symm.trans hiW.1; have zhv1 := hv1.size; replace bL := bL.nx hv1; replace bM := bM.nx hv1; replace hX := hX.trans hv1; replace hXs := hXs.trans hv1; (try replace bz := bz.nx hv1); (try replace hiS := hiS.nx hv1); (try replace hiW := hiW.nx hv1); (try replace hjS := hjS.nx hv1); (try replace hjM := hjM.nx hv1); (try replace hS := hS.nx hv1); (try replace hW := hW.nx hv1)
      go_wp2_with fail
      refine hK.out _ _ (by exact ⟨⟨bL.c0, bL.c1⟩, bM.d6⟩) ?_
      clear hK K
      try simp only [Act.put, List.setIfInBounds_toArray, List.set_cons_zero, List.set_cons_succ]
      refine HP.both ?_ ?_
      · refine CallStep.mk (by rfl) (fun K hK => ?_)
        go_simp
        refine (toSuper_c g b p t Ax Am cx cm w.heap.size xs ms _ (hs.below hX (Nat.le_refl _)) (hmk.below hX (Nat.le_refl _)) hX.size hx' hm').mono ?_; rintro e v2 ⟨Aj, cj, Bj, dj, rfl, hcj, hjS, hjM, hv2⟩; have Hcj := Lib.hid hcj; clear hcj; have zhv2 := hv2.size; replace bL := bL.nx hv2; replace bM := bM.nx hv2; replace hX := hX.trans hv2; replace hXs := hXs.trans hv2; (try replace bz := bz.nx hv2); (try replace hiS := hiS.nx hv2); (try replace hiW := hiW.nx hv2); (try replace hjS := hjS.nx hv2); (try replace hjM := hjM.nx hv2); (try replace hS := hS.nx hv2); (try replace hW := hW.nx hv2)
        go_wp2_with fail
        refine hK.out _ _ (by exact ⟨⟨bL.c0, bL.c1⟩, bM.d6⟩) ?_
        clear hK K
        try simp only [Act.put, List.setIfInBounds_toArray, List.set_cons_zero, List.set_cons_succ]
        refine HP.both ?_ ?_
        · refine CallStep.mk (by rfl) (fun K hK => ?_)
          go_simp
          refine (implCommitSuper_r Ai Bi n ci n2 di _ ss ws g b p t Aj Bj cj dj xs ms _ a0 a1 R1 R2 cd HPc.out hiS.strs hiW.wrs hjS.row hjM.row (Nat.le_refl _) hn' hn2' hx' hm' Hcj.out hmm (hE.nx hX) (hM.nx hX) (hEt.nx hX) (hT.nx hX)).mono ?_; rintro e v3 ⟨A9, n9, c9, B9, m9, d9, rfl, hS, hW, hv3⟩; obtain rfl : r1 = n9 := Hr1.out.symm.trans hS.1; obtain rfl : r2 = m9 := Hr2.out.symm.trans hW.1; replace hS := hS.low (lo' := wh.heap.size) (by have := hXs.size; omega); replace hW := hW.low (lo' := wh.heap.size) (by have := hXs.size; omega); have zhv3 := hv3.size; replace bL := bL.nx hv3; replace bM := bM.nx hv3; replace hX := hX.trans hv3; replace hXs := hXs.trans hv3; (try replace bz := bz.nx hv3); (try replace hiS := hiS.nx hv3); (try replace hiW := hiW.nx hv3); (try replace hjS := hjS.nx hv3); (try replace hjM := hjM.nx hv3); (try replace hS := hS.nx hv3); (try replace hW := hW.nx hv3)
          go_wp2_with fail
          refine hK.out _ _ (by exact ⟨⟨bL.c0, bL.c1⟩, bM.d6⟩) ?_
          clear hK K
          try simp only [Act.put, List.setIfInBounds_toArray, List.set_cons_zero, List.set_cons_succ]
          repeat (first | (refine HP.take (v := ?_) (by rfl) ?_ ?_; rotate_left; (· (intro w hSw; (try dsimp only at hSw); go_simp; try with_reducible rfl)); (try simp only [Act.put, List.setIfInBounds_toArray, List.set_cons_zero, List.set_cons_succ])) | (refine HP.skip (by rfl) ?_; (try simp only [Act.put, List.setIfInBounds_toArray, List.set_cons_zero, List.set_cons_succ])))
          refine HP.call ?_
          have bz := Box.new v3 35 #[.slice none 0 0, .slice none 0 0]
          have hz := (Nx.refl v3).alloc (.cells #[.slice none 0 0, .slice none 0 0] 35)
          have zlt : v3.heap.size < (v3.alloc (.cells #[.slice none 0 0, .slice none 0 0] 35)).heap.size := by simp
          have zhz := hz.size; replace bL := bL.nx hz; replace bM := bM.nx hz; replace hX := hX.trans hz; replace hXs := hXs.trans hz; (try replace bz := bz.nx hz); (try replace hiS := hiS.nx hz); (try replace hiW := hiW.nx hz); (try replace hjS := hjS.nx hz); (try replace hjM := hjM.nx hz); (try replace hS := hS.nx hz); (try replace hW := hW.nx hz)
          refine CallStep.mk (by rfl) (fun K hK => ?_)
          go_simp
          refine hK.out _ _ (by exact ⟨⟨bL.c0, bL.c1⟩, bM.d6⟩) ?_
          clear hK K
          try simp only [Act.put, List.setIfInBounds_toArray, List.set_cons_zero, List.set_cons_succ]
          change HP _ _ _ _ _ _ (v3.alloc (.cells #[.slice none 0 0, .slice none 0 0] 35))
          generalize v3.alloc (.cells #[.slice none 0 0, .slice none 0 0] 35) = Wz at *
          generalize v3.heap.size = gz at *
          clear hz
          have rc0 := bz.c0; have rc1 := bz.c1
          have rf0 := bz.frozen 0
          have rf1 := bz.frozen 1
          have rf2 := bz.frozen 2
          have rf3 := bz.frozen 3
          have rlt := bz.lt
          refine HP.call ?_
          refine CallStep.mk (by rfl) (fun K hK => ?_)
          go_simp
          refine hK.out _ _ (by exact ⟨⟨((bL.far (p := ⟨gz, 0, none⟩) (by simp <;> omega) (.slice A9 r1 c9)).far (p := ⟨gz, 1, none⟩) (by simp <;> omega) (.slice B9 r2 d9)).c0, ((bL.far (p := ⟨gz, 0, none⟩) (by simp <;> omega) (.slice A9 r1 c9)).far (p := ⟨gz, 1, none⟩) (by simp <;> omega) (.slice B9 r2 d9)).c1⟩, ((bM.far (p := ⟨gz, 0, none⟩) (by simp <;> omega) (.slice A9 r1 c9)).far (p := ⟨gz, 1, none⟩) (by simp <;> omega) (.slice B9 r2 d9)).d6⟩) ?_
          clear hK K
          try simp only [Act.put, List.setIfInBounds_toArray, List.set_cons_zero, List.set_cons_succ]
          clear rc0 rc1 rf0 rf1 rf2 rf3
          repeat (first | (refine HP.take (v := ?_) (by rfl) ?_ ?_; rotate_left; (· (intro w hSw; (try dsimp only at hSw); go_simp; try with_reducible rfl)); (try simp only [Act.put, List.setIfInBounds_toArray, List.set_cons_zero, List.set_cons_succ])) | (refine HP.skip (by rfl) ?_; (try simp only [Act.put, List.setIfInBounds_toArray, List.set_cons_zero, List.set_cons_succ])))
          refine HP.done ?_
          have rq := (bz.set0 (.slice A9 r1 c9)).set1 (.slice B9 r2 d9)
          have hnf := (hXs.setCell (p := ⟨gz, 0, none⟩) (by show _ ≤ gz; omega) (.slice A9 r1 c9)).setCell (p := ⟨gz, 1, none⟩) (by show _ ≤ gz; omega) (.slice B9 r2 d9)
          have hSf := hS.two bz (.slice A9 r1 c9) (.slice B9 r2 d9)
          have hWf := hW.two bz (.slice A9 r1 c9) (.slice B9 r2 d9)
          generalize ((Wz.setCell ⟨gz, 0, none⟩ (.slice A9 r1 c9)).setCell ⟨gz, 1, none⟩ (.slice B9 r2 d9)) = Wf at *
          exact key gz A9 c9 B9 d9 Wf Ai ci Bi di Aj cj Bj dj ⟨rq, hSf, hWf, by omega, hnf⟩
        · have bz := Box.new v2 35 #[.slice none 0 0, .slice none 0 0]
          have hz := (Nx.refl v2).alloc (.cells #[.slice none 0 0, .slice none 0 0] 35)
          have zlt : v2.heap.size < (v2.alloc (.cells #[.slice none 0 0, .slice none 0 0] 35)).heap.size := by simp
          have zhz := hz.size; replace bL := bL.nx hz; replace bM := bM.nx hz; replace hX := hX.trans hz; replace hXs := hXs.trans hz; (try replace bz := bz.nx hz); (try replace hiS := hiS.nx hz); (try replace hiW := hiW.nx hz); (try replace hjS := hjS.nx hz); (try replace hjM := hjM.nx hz); (try replace hS := hS.nx hz); (try replace hW := hW.nx hz)
          refine CallStep.mk (by rfl) (fun K hK => ?_)
          go_simp
          refine hK.out _ _ (by exact ⟨⟨bL.c0, bL.c1⟩, bM.d6⟩) ?_
          clear hK K
          try simp only [Act.put, List.setIfInBounds_toArray, List.set_cons_zero, List.set_cons_succ]
          change HP _ _ _ _ _ _ (v2.alloc (.cells #[.slice none 0 0, .slice none 0 0] 35))
          generalize v2.alloc (.cells #[.slice none 0 0, .slice none 0 0] 35) = Wz at *
          generalize v2.heap.size = gz at *
          clear hz
          refine HP.call ?_
          refine CallStep.mk (by rfl) (fun K hK => ?_)
          go_simp
          refine (implCommitSuper_r Ai Bi n ci n2 di _ ss ws g b p t Aj Bj cj dj xs ms _ a0 a1 R1 R2 cd HPc.out hiS.strs hiW.wrs hjS.row hjM.row (Nat.le_refl _) hn' hn2' hx' hm' Hcj.out hmm (hE.nx hX) (hM.nx hX) (hEt.nx hX) (hT.nx hX)).mono ?_; rintro e v3 ⟨A9, n9, c9, B9, m9, d9, rfl, hS, hW, hv3⟩; obtain rfl : r1 = n9 := Hr1.out.symm.trans hS.1; obtain rfl : r2 = m9 := Hr2.out.symm.trans hW.1; replace hS := hS.low (lo' := wh.heap.size) (by have := hXs.size; omega); replace hW := hW.low (lo' := wh.heap.size) (by have := hXs.size; omega); have zhv3 := hv3.size; replace bL := bL.nx hv3; replace bM := bM.nx hv3; replace hX := hX.trans hv3; replace hXs := hXs.trans hv3; (try replace bz := bz.nx hv3); (try replace hiS := hiS.nx hv3); (try replace hiW := hiW.nx hv3); (try replace hjS := hjS.nx hv3); (try replace hjM := hjM.nx hv3); (try replace hS := hS.nx hv3); (try replace hW := hW.nx hv3)
          go_wp2_with fail
          refine hK.out _ _ (by exact ⟨⟨bL.c0, bL.c1⟩, bM.d6⟩) ?_
          clear hK K
          try simp only [Act.put, List.setIfInBounds_toArray, List.set_cons_zero, List.set_cons_succ]
          repeat (first | (refine HP.take (v := ?_) (by rfl) ?_ ?_; rotate_left; (· (intro w hSw; (try dsimp only at hSw); go_simp; try with_reducible rfl)); (try simp only [Act.put, List.setIfInBounds_toArray, List.set_cons_zero, List.set_cons_succ])) | (refine HP.skip (by rfl) ?_; (try simp only [Act.put, List.setIfInBounds_toArray, List.set_cons_zero, List.set_cons_succ])))
          have rc0 := bz.c0; have rc1 := bz.c1
          have rf0 := bz.frozen 0
          have rf1 := bz.frozen 1
          have rf2 := bz.frozen 2
          have rf3 := bz.frozen 3
          have rlt := bz.lt
          refine HP.call ?_
          refine CallStep.mk (by rfl) (fun K hK => ?_)
          go_simp
          refine hK.out _ _ (by exact ⟨⟨((bL.far (p := ⟨gz, 0, none⟩) (by simp <;> omega) (.slice A9 r1 c9)).far (p := ⟨gz, 1, none⟩) (by simp <;> omega) (.slice B9 r2 d9)).c0, ((bL.far (p := ⟨gz, 0, none⟩) (by simp <;> omega) (.slice A9 r1 c9)).far (p := ⟨gz, 1, none⟩) (by simp <;> omega) (.slice B9 r2 d9)).c1⟩, ((bM.far (p := ⟨gz, 0, none⟩) (by simp <;> omega) (.slice A9 r1 c9)).far (p := ⟨gz, 1, none⟩) (by simp <;> omega) (.slice B9 r2 d9)).d6⟩) ?_
          clear hK K
          try simp only [Act.put, List.setIfInBounds_toArray, List.set_cons_zero, List.set_cons_succ]
          clear rc0 rc1 rf0 rf1 rf2 rf3
          repeat (first | (refine HP.take (v := ?_) (by rfl) ?_ ?_; rotate_left; (· (intro w hSw; (try dsimp only at hSw); go_simp; try with_reducible rfl)); (try simp only [Act.put, List.setIfInBounds_toArray, List.set_cons_zero, List.set_cons_succ])) | (refine HP.skip (by rfl) ?_; (try simp only [Act.put, List.setIfInBounds_toArray, List.set_cons_zero, List.set_cons_succ])))
          refine HP.done ?_
          have rq := (bz.set0 (.slice A9 r1 c9)).set1 (.slice B9 r2 d9)
          have hnf := (hXs.setCell (p := ⟨gz, 0, none⟩) (by show _ ≤ gz; omega) (.slice A9 r1 c9)).setCell (p := ⟨gz, 1, none⟩) (by show _ ≤ gz; omega) (.slice B9 r2 d9)
          have hSf := hS.two bz (.slice A9 r1 c9) (.slice B9 r2 d9)
          have hWf := hW.two bz (.slice A9 r1 c9) (.slice B9 r2 d9)
          generalize ((v3.setCell ⟨gz, 0, none⟩ (.slice A9 r1 c9)).setCell ⟨gz, 1, none⟩ (.slice B9 r2 d9)) = Wf at *
          exact key gz A9 c9 B9 d9 Wf Ai ci Bi di Aj cj Bj dj ⟨rq, hSf, hWf, by omega, hnf⟩
      · have bz := Box.new v1 35 #[.slice none 0 0, .slice none 0 0]
        have hz := (Nx.refl v1).alloc (.cells #[.slice none 0 0, .slice none 0 0] 35)
        have zlt : v1.heap.size < (v1.alloc (.cells #[.slice none 0 0, .slice none 0 0] 35)).heap.size := by simp
        have zhz := hz.size; replace bL := bL.nx hz; replace bM := bM.nx hz; replace hX := hX.trans hz; replace hXs := hXs.trans hz; (try replace bz := bz.nx hz); (try replace hiS := hiS.nx hz); (try replace hiW := hiW.nx hz); (try replace hjS := hjS.nx hz); (try replace hjM := hjM.nx hz); (try replace hS := hS.nx hz); (try replace hW := hW.nx hz)
        refine CallStep.mk (by rfl) (fun K hK => ?_)
        go_simp
        refine hK.out _ _ (by exact ⟨⟨bL.c0, bL.c1⟩, bM.d6⟩) ?_
        clear hK K
        try simp only [Act.put, List.setIfInBounds_toArray, List.set_cons_zero, List.set_cons_succ]
        change HP _ _ _ _ _ _ (v1.alloc (.cells #[.slice none 0 0, .slice none 0 0] 35))
        generalize v1.alloc (.cells #[.slice none 0 0, .slice none 0 0] 35) = Wz at *
        generalize v1.heap.size = gz at *
        clear hz
        refine HP.call ?_
        refine CallStep.mk (by rfl) (fun K hK => ?_)
        go_simp
        refine (toSuper_c g b p t Ax Am cx cm w.heap.size xs ms _ (hs.below hX (Nat.le_refl _)) (hmk.below hX (Nat.le_refl _)) hX.size hx' hm').mono ?_; rintro e v2 ⟨Aj, cj, Bj, dj, rfl, hcj, hjS, hjM, hv2⟩; have Hcj := Lib.hid hcj; clear hcj; have zhv2 := hv2.size; replace bL := bL.nx hv2; replace bM := bM.nx hv2; replace hX := hX.trans hv2; replace hXs := hXs.trans hv2; (try replace bz := bz.nx hv2); (try replace hiS := hiS.nx hv2); (try replace hiW := hiW.nx hv2); (try replace hjS := hjS.nx hv2); (try replace hjM := hjM.nx hv2); (try replace hS := hS.nx hv2); (try replace hW := hW.nx hv2)
        go_wp2_with fail
        refine hK.out _ _ (by exact ⟨⟨bL.c0, bL.c1⟩, bM.d6⟩) ?_
        clear hK K
        try simp only [Act.put, List.setIfInBounds_toArray, List.set_cons_zero, List.set_cons_succ]
        refine HP.call ?_
        refine CallStep.mk (by rfl) (fun K hK => ?_)
        go_simp
        refine (implCommitSuper_r Ai Bi n ci n2 di _ ss ws g b p t Aj Bj cj dj xs ms _ a0 a1 R1 R2 cd HPc.out hiS.strs hiW.wrs hjS.row hjM.row (Nat.le_refl _) hn' hn2' hx' hm' Hcj.out hmm (hE.nx hX) (hM.nx hX) (hEt.nx hX) (hT.nx hX)).mono ?_; rintro e v3 ⟨A9, n9, c9, B9, m9, d9, rfl, hS, hW, hv3⟩; obtain rfl : r1 = n9 := Hr1.out.symm.trans hS.1; obtain rfl : r2 = m9 := Hr2.out.symm.trans hW.1; replace hS := hS.low (lo' := wh.heap.size) (by have := hXs.size; omega); replace hW := hW.low (lo' := wh.heap.size) (by have := hXs.size; omega); have zhv3 := hv3.size; replace bL := bL.nx hv3; replace bM := bM.nx hv3; replace hX := hX.trans hv3; replace hXs := hXs.trans hv3; (try replace bz := bz.nx hv3); (try replace hiS := hiS.nx hv3); (try replace hiW := hiW.nx hv3); (try replace hjS := hjS.nx hv3); (try replace hjM := hjM.nx hv3); (try replace hS := hS.nx hv3); (try replace hW := hW.nx hv3)
        go_wp2_with fail
        refine hK.out _ _ (by exact ⟨⟨bL.c0, bL.c1⟩, bM.d6⟩) ?_
        clear hK K
        try simp only [Act.put, List.setIfInBounds_toArray, List.set_cons_zero, List.set_cons_succ]
        repeat (first | (refine HP.take (v := ?_) (by rfl) ?_ ?_; rotate_left; (· (intro w hSw; (try dsimp only at hSw); go_simp; try with_reducible rfl)); (try simp only [Act.put, List.setIfInBounds_toArray, List.set_cons_zero, List.set_cons_succ])) | (refine HP.skip (by rfl) ?_; (try simp only [Act.put, List.setIfInBounds_toArray, List.set_cons_zero, List.set_cons_succ])))
        have rc0 := bz.c0; have rc1 := bz.c1
        have rf0 := bz.frozen 0
        have rf1 := bz.frozen 1
        have rf2 := bz.frozen 2
        have rf3 := bz.frozen 3
        have rlt := bz.lt
        refine HP.call ?_
        refine CallStep.mk (by rfl) (fun K hK => ?_)
        go_simp
        refine hK.out _ _ (by exact ⟨⟨((bL.far (p := ⟨gz, 0, none⟩) (by simp <;> omega) (.slice A9 r1 c9)).far (p := ⟨gz, 1, none⟩) (by simp <;> omega) (.slice B9 r2 d9)).c0, ((bL.far (p := ⟨gz, 0, none⟩) (by simp <;> omega) (.slice A9 r1 c9)).far (p := ⟨gz, 1, none⟩) (by simp <;> omega) (.slice B9 r2 d9)).c1⟩, ((bM.far (p := ⟨gz, 0, none⟩) (by simp <;> omega) (.slice A9 r1 c9)).far (p := ⟨gz, 1, none⟩) (by simp <;> omega) (.slice B9 r2 d9)).d6⟩) ?_
        clear hK K
        try simp only [Act.put, List.setIfInBounds_toArray, List.set_cons_zero, List.set_cons_succ]
        clear rc0 rc1 rf0 rf1 rf2 rf3
        repeat (first | (refine HP.take (v := ?_) (by rfl) ?_ ?_; rotate_left; (· (intro w hSw; (try dsimp only at hSw); go_simp; try with_reducible rfl)); (try simp only [Act.put, List.setIfInBounds_toArray, List.set_cons_zero, List.set_cons_succ])) | (refine HP.skip (by rfl) ?_; (try simp only [Act.put, List.setIfInBounds_toArray, List.set_cons_zero, List.set_cons_succ])))
        refine HP.done ?_
        have rq := (bz.set0 (.slice A9 r1 c9)).set1 (.slice B9 r2 d9)
        have hnf := (hXs.setCell (p := ⟨gz, 0, none⟩) (by show _ ≤ gz; omega) (.slice A9 r1 c9)).setCell (p := ⟨gz, 1, none⟩) (by show _ ≤ gz; omega) (.slice B9 r2 d9)
        have hSf := hS.two bz (.slice A9 r1 c9) (.slice B9 r2 d9)
        have hWf := hW.two bz (.slice A9 r1 c9) (.slice B9 r2 d9)
        generalize ((v3.setCell ⟨gz, 0, none⟩ (.slice A9 r1 c9)).setCell ⟨gz, 1, none⟩ (.slice B9 r2 d9)) = Wf at *
        exact key gz A9 c9 B9 d9 Wf Ai ci Bi di Aj cj Bj dj ⟨rq, hSf, hWf, by omega, hnf⟩
    · have bz := Box.new W0 35 #[.slice none 0 0, .slice none 0 0]
      have hz := (Nx.refl W0).alloc (.cells #[.slice none 0 0, .slice none 0 0] 35)
      have zlt : W0.heap.size < (W0.alloc (.cells #[.slice none 0 0, .slice none 0 0] 35)).heap.size := by simp
      have zhz := hz.size; replace bL := bL.nx hz; replace bM := bM.nx hz; replace hX := hX.trans hz; replace hXs := hXs.trans hz; (try replace bz := bz.nx hz); (try replace hiS := hiS.nx hz); (try replace hiW := hiW.nx hz); (try replace hjS := hjS.nx hz); (try replace hjM := hjM.nx hz); (try replace hS := hS.nx hz); (try replace hW := hW.nx hz)
      refine CallStep.mk (by rfl) (fun K hK => ?_)
      go_simp
      refine hK.out _ _ (by exact ⟨⟨bL.c0, bL.c1⟩, bM.d6⟩) ?_
      clear hK K
      try simp only [Act.put, List.setIfInBounds_toArray, List.set_cons_zero, List.set_cons_succ]
      change HP _ _ _ _ _ _ (W0.alloc (.cells #[.slice none 0 0, .slice none 0 0] 35))
      generalize W0.alloc (.cells #[.slice none 0 0, .slice none 0 0] 35) = Wz at *
      generalize W0.heap.size = gz at *
      clear hz
      refine HP.call ?_
      refine CallStep.mk (by rfl) (fun K hK => ?_)
      go_simp
      refine (toDisk_c A A2 n c n2 c2 w.heap.size ss ws _ (h.below hX (Nat.le_refl _)) (h2.below hX (Nat.le_refl _)) hX.size hn' hn2').mono ?_; rintro e v1 ⟨Ai, ni, ci, Bi, mi, di, rfl, hiS, hiW, hv1⟩; obtain rfl : n = ni := h.1.symm.trans hiS.1; obtain rfl : n2 = mi := h2.1.symm.trans hiW.1; have zhv1 := hv1.size; replace bL := bL.nx hv1; replace bM := bM.nx hv1; replace hX := hX.trans hv1; replace hXs := hXs.trans hv1; (try replace bz := bz.nx hv1); (try replace hiS := hiS.nx hv1); (try replace hiW := hiW.nx hv1); (try replace hjS := hjS.nx hv1); (try replace hjM := hjM.nx hv1); (try replace hS := hS.nx hv1); (try replace hW := hW.nx hv1)
      go_wp2_with fail
      refine hK.out _ _ (by exact ⟨⟨bL.c0, bL.c1⟩, bM.d6⟩) ?_
      clear hK K
      try simp only [Act.put, List.setIfInBounds_toArray, List.set_cons_zero, List.set_cons_succ]
      refine HP.call ?_
      refine CallStep.mk (by rfl) (fun K hK => ?_)
      go_simp
      refine (toSuper_c g b p t Ax Am cx cm w.heap.size xs ms _ (hs.below hX (Nat.le_refl _)) (hmk.below hX (Nat.le_refl _)) hX.size hx' hm').mono ?_; rintro e v2 ⟨Aj, cj, Bj, dj, rfl, hcj, hjS, hjM, hv2⟩; have Hcj := Lib.hid hcj; clear hcj; have zhv2 := hv2.size; replace bL := bL.nx hv2; replace bM := bM.nx hv2; replace hX := hX.trans hv2; replace hXs := hXs.trans hv2; (try replace bz := bz.nx hv2); (try replace hiS := hiS.nx hv2); (try replace hiW := hiW.nx hv2); (try replace hjS := hjS.nx hv2); (try replace hjM := hjM.nx hv2); (try replace hS := hS.nx hv2); (try replace hW := hW.nx hv2)
      go_wp2_with fail
      refine hK.out _ _ (by exact ⟨⟨bL.c0, bL.c1⟩, bM.d6⟩) ?_
      clear hK K
      try simp only [Act.put, List.setIfInBounds_toArray, List.set_cons_zero, List.set_cons_succ]
      refine HP.call ?_
      refine CallStep.mk (by rfl) (fun K hK => ?_)
      go_simp
      refine (implCommitSuper_r Ai Bi n ci n2 di _ ss ws g b p t Aj Bj cj dj xs ms _ a0 a1 R1 R2 cd HPc.out hiS.strs hiW.wrs hjS.row hjM.row (Nat.le_refl _) hn' hn2' hx' hm' Hcj.out hmm (hE.nx hX) (hM.nx hX) (hEt.nx hX) (hT.nx hX)).mono ?_; rintro e v3 ⟨A9, n9, c9, B9, m9, d9, rfl, hS, hW, hv3⟩; obtain rfl : r1 = n9 := Hr1.out.symm.trans hS.1; obtain rfl : r2 = m9 := Hr2.out.symm.trans hW.1; replace hS := hS.low (lo' := wh.heap.size) (by have := hXs.size; omega); replace hW := hW.low (lo' := wh.heap.size) (by have := hXs.size; omega); have zhv3 := hv3.size; replace bL := bL.nx hv3; replace bM := bM.nx hv3; replace hX := hX.trans hv3; replace hXs := hXs.trans hv3; (try replace bz := bz.nx hv3); (try replace hiS := hiS.nx hv3); (try replace hiW := hiW.nx hv3); (try replace hjS := hjS.nx hv3); (try replace hjM := hjM.nx hv3); (try replace hS := hS.nx hv3); (try replace hW := hW.nx hv3)
      go_wp2_with fail
      refine hK.out _ _ (by exact ⟨⟨bL.c0, bL.c1⟩, bM.d6⟩) ?_
      clear hK K
      try simp only [Act.put, List.setIfInBounds_toArray, List.set_cons_zero, List.set_cons_succ]
      repeat (first | (refine HP.take (v := ?_) (by rfl) ?_ ?_; rotate_left; (· (intro w hSw; (try dsimp only at hSw); go_simp; try with_reducible rfl)); (try simp only [Act.put, List.setIfInBounds_toArray, List.set_cons_zero, List.set_cons_succ])) | (refine HP.skip (by rfl) ?_; (try simp only [Act.put, List.setIfInBounds_toArray, List.set_cons_zero, List.set_cons_succ])))
      have rc0 := bz.c0; have rc1 := bz.c1
      have rf0 := bz.frozen 0
      have rf1 := bz.frozen 1
      have rf2 := bz.frozen 2
      have rf3 := bz.frozen 3
      have rlt := bz.lt
      refine HP.call ?_
      refine CallStep.mk (by rfl) (fun K hK => ?_)
      go_simp
      refine hK.out _ _ (by exact ⟨⟨((bL.far (p := ⟨gz, 0, none⟩) (by simp <;> omega) (.slice A9 r1 c9)).far (p := ⟨gz, 1, none⟩) (by simp <;> omega) (.slice B9 r2 d9)).c0, ((bL.far (p := ⟨gz, 0, none⟩) (by simp <;> omega) (.slice A9 r1 c9)).far (p := ⟨gz, 1, none⟩) (by simp <;> omega) (.slice B9 r2 d9)).c1⟩, ((bM.far (p := ⟨gz, 0, none⟩) (by simp <;> omega) (.slice A9 r1 c9)).far (p := ⟨gz, 1, none⟩) (by simp <;> omega) (.slice B9 r2 d9)).d6⟩) ?_
      clear hK K
      try simp only [Act.put, List.setIfInBounds_toArray, List.set_cons_zero, List.set_cons_succ]
      clear rc0 rc1 rf0 rf1 rf2 rf3
      repeat (first | (refine HP.take (v := ?_) (by rfl) ?_ ?_; rotate_left; (· (intro w hSw; (try dsimp only at hSw); go_simp; try with_reducible rfl)); (try simp only [Act.put, List.setIfInBounds_toArray, List.set_cons_zero, List.set_cons_succ])) | (refine HP.skip (by rfl) ?_; (try simp only [Act.put, List.setIfInBounds_toArray, List.set_cons_zero, List.set_cons_succ])))
      refine HP.done ?_
      have rq := (bz.set0 (.slice A9 r1 c9)).set1 (.slice B9 r2 d9)
      have hnf := (hXs.setCell (p := ⟨gz, 0, none⟩) (by show _ ≤ gz; omega) (.slice A9 r1 c9)).setCell (p := ⟨gz, 1, none⟩) (by show _ ≤ gz; omega) (.slice B9 r2 d9)
      have hSf := hS.two bz (.slice A9 r1 c9) (.slice B9 r2 d9)
      have hWf := hW.two bz (.slice A9 r1 c9) (.slice B9 r2 d9)
      generalize ((v3.setCell ⟨gz, 0, none⟩ (.slice A9 r1 c9)).setCell ⟨gz, 1, none⟩ (.slice B9 r2 d9)) = Wf at *
      exact key gz A9 c9 B9 d9 Wf Ai ci Bi di Aj cj Bj dj ⟨rq, hSf, hWf, by omega, hnf⟩
  intro gH A15 c15 B15 d15 W15 Ai15 ci15 Bi15 di15 Aj15 cj15 Bj15 dj15 ⟨bH, hS15, hW15, hgH, hxr15⟩
  have zb15 := bH.lt
  have zhxr15 := hxr15.size; replace bL := bL.nx hxr15; replace bM := bM.nx hxr15; replace hS5 := hS5.nx hxr15; replace hW5 := hW5.nx hxr15; replace bW := bW.nx hxr15; replace bX := bX.nx hxr15; replace bY := bY.nx hxr15; replace bG := bG.nx hxr15; replace hS8b := hS8b.nx hxr15; replace hW8b := hW8b.nx hxr15; replace hX := hX.trans hxr15
  replace hS15 := hS15.sr
  replace hW15 := hW15.sr
  clear hxr15
  have lc0 := bW.c0
  have lc1 := bW.c1
  have nc0 := bH.c0
  have nc1 := bH.c1
  go_wp2_with fail
  refine (eqDisk_c A15 B15 A5 B5 r1 c15 c5 r2 d15 d5 _ R1 R2 _ hS15.sl.strs hS5.sl.strs hW15.sl.wrs hW5.sl.wrs (Nat.le_refl _) hr1 hr2).mono ?_
  rintro e wg ⟨rfl, hxg⟩
  have zhxg := hxg.size; replace bL := bL.nx hxg; replace bM := bM.nx hxg; replace hS5 := hS5.nx hxg; replace hW5 := hW5.nx hxg; replace bW := bW.nx hxg; replace bX := bX.nx hxg; replace bY := bY.nx hxg; replace bG := bG.nx hxg; replace hS8b := hS8b.nx hxg; replace hW8b := hW8b.nx hxg; replace hS15 := hS15.nx hxg; replace hW15 := hW15.nx hxg; replace bH := bH.nx hxg; replace hX := hX.trans hxg
  clear lc0 lc1 nc0 nc1
  have nc0 := bG.c0
  have nc1 := bG.c1
  go_wp2_with fail
  refine (heldDisk_c A8 B8 r1 c8 r2 d8 1 _ _ hS8b.sl.strs hW8b.sl.wrs (Nat.le_refl _) hr1 hr2 (by omega)).mono ?_
  rintro e wi ⟨rfl, hxi⟩
  rw [Hk3.out]
  have zhxi := hxi.size; replace bL := bL.nx hxi; replace bM := bM.nx hxi; replace hS5 := hS5.nx hxi; replace hW5 := hW5.nx hxi; replace bW := bW.nx hxi; replace bX := bX.nx hxi; replace bY := bY.nx hxi; replace bG := bG.nx hxi; replace hS8b := hS8b.nx hxi; replace hW8b := hW8b.nx hxi; replace hS15 := hS15.nx hxi; replace hW15 := hW15.nx hxi; replace bH := bH.nx hxi; replace hX := hX.trans hxi
  go_wp2
  go_ret
  exact ⟨rfl, hX⟩
end Go.Proofs.YteckhdkghfidiaaGreatDoor
/- A disk that comes in, opened: its texts and its writes as lists, and the cells that hold them. Conditions: the disk can be read. -/
namespace Go.Proofs.YteckhdkghfidiaaGreatDoor
set_option linter.unusedVariables false
set_option maxRecDepth 100000
open Go.Joins Go.ChangeShapes Go.WideShapes Go.RowKit Go.Deep

theorem c3_ : Tryz.prog.cellsOf 3 = 1 := by kernel_rfl
theorem c9_ : Tryz.prog.cellsOf 9 = 1 := by kernel_rfl
theorem cLD : Tryz.prog.cellsOf 49 = 2 := by kernel_rfl
theorem cLW : Tryz.prog.cellsOf 138 = 2 := by kernel_rfl

theorem addr_plain {w : World} {a : Addr} {v : Value} (h : w.cell? (a.add 0) = some v) : ∃ b off, a = ⟨b, off, none⟩ ∧ b < w.heap.size := by
  have h' : w.cell? a = some v := by simpa [Addr.add] using h
  have hs := World.cell?_spot h'
  obtain ⟨b, off, sp⟩ := a
  simp only at hs
  subst hs
  exact ⟨b, off, rfl, World.block_lt_of_cell? w _ h'⟩
theorem addr_add (b off i : Nat) : (Addr.mk b off none).add i = ⟨b, off + i, none⟩ := by
  unfold Addr.add
  by_cases h : i = 0
  · subst h; simp
  · simp [h]

section
variable {H : Type} {enc : TypeId × Value → H} {w : World} {base : Nat} {spare : Nat → Bool} {held : Bool}
theorem open_strs_ {fuel : Nat} {v : Value} {x : DataW H × List MemPlace} (h : DataW.trod enc Tryz.prog w base spare held fuel 32 [v] = some x) :
    ∃ (A : Option Addr) (n c : Nat) (ss : List ByteArray), v = .slice A n c ∧ Strs w w.heap.size A n ss ∧ AllS ss ∧ n ≤ 2 ^ 63 - 1 := by
  rcases open_strings Tryz.underlying32 Tryz.underlying9 c9_ h with ⟨hcs, _⟩ | ⟨a, len, cap, ss, hcs, _, hl, hm, hlen, _, hcell, hws⟩
  · refine ⟨none, 0, 0, [], by simpa using hcs, ⟨rfl, fun hn => absurd hn (by omega)⟩, fun k => by simp, by omega⟩
  · have hle : len ≤ ss.length := by rw [hlen]; split <;> omega
    unfold maxLen at hm hws
    refine ⟨some a, len, cap, ss.take len, by simpa using hcs, ⟨by simp [hle], fun hn => ?_⟩, fun k => ?_, by omega⟩
    · obtain ⟨b, off, rfl, hb⟩ := addr_plain (hcell 0 (by omega))
      refine ⟨b, off, rfl, hb, fun i hi => ?_⟩
      have := hcell i (by omega)
      rw [addr_add] at this
      dsimp only
      rw [this, List.getD_eq_getElem?_getD, List.getD_eq_getElem?_getD, List.getElem?_take_of_lt hi]
    · rw [List.getD_eq_getElem?_getD]
      by_cases hk : k < (ss.take len).length
      · rw [List.getElem?_eq_getElem hk]
        exact hws _ (List.mem_of_mem_take (List.getElem_mem hk))
      · rw [List.getElem?_eq_none (by omega)]
        simp
theorem open_writes_ {fuel : Nat} {v : Value} {x : DataW H × List MemPlace} (h : DataW.trod enc Tryz.prog w base spare held fuel 47 [v] = some x) :
    ∃ (A : Option Addr) (n c : Nat) (ws : List (Int × ByteArray)), v = .slice A n c ∧ Wrs w w.heap.size A n ws ∧ AllW ws ∧ n ≤ 2 ^ 63 - 1 := by
  rcases open_slice Tryz.underlying47 h with ⟨hcs, _⟩ | ⟨a, len, cap, m, n, D, Pl, hcs, _, hl, hm, hmm, _, hi⟩
  · refine ⟨none, 0, 0, [], by simpa using hcs, ⟨rfl, fun hn => absurd hn (by omega)⟩, fun k => by simp, by omega⟩
  · have hle : len ≤ m := by rw [hmm]; split <;> omega
    unfold maxLen at hm
    have key : ∀ i, ∃ p : Int × ByteArray, i < m → w.cell? (a.add (i * 2)) = some (.int .i64 p.1) ∧ w.cell? ((a.add (i * 2)).add 1) = some (.string p.2) ∧ p.2.size ≤ 2 ^ 63 - 1 := by
      intro i
      by_cases him : i < m
      · obtain ⟨cs', hc, ht⟩ := hi i him
        rw [cLW] at hc
        obtain ⟨_, hcl, hat⟩ := World.cells?_some hc
        obtain ⟨y0, y1, k, _, _, t0, t1⟩ := trod_struct2 Tryz.underlying138 ht
        match cs', hcl with
        | [u0, u1], _ =>
          have e0 : ∃ q, [u0] = [Value.int .i64 q] := by
            obtain ⟨q, e, _, _⟩ := DataW.trod_int (k := .i64) Tryz.underlying3 t0
            rw [c3_] at e
            exact ⟨q, e⟩
          have e1 : ∃ q, [u1] = [Value.string q] ∧ q.size ≤ maxLen := by
            obtain ⟨q, e, _, hq⟩ := DataW.trod_string Tryz.underlying9 t1
            rw [c9_] at e
            exact ⟨q, e, hq⟩
          obtain ⟨q0, e0⟩ := e0
          obtain ⟨q1, e1, hq⟩ := e1
          simp only [List.cons.injEq, and_true] at e0 e1
          subst e0 e1
          refine ⟨(q0, q1), fun _ => ⟨?_, hat 1 (by omega), by unfold maxLen at hq; exact hq⟩⟩
          have := hat 0 (by omega)
          simpa [Addr.add] using this
      · exact ⟨(0, ByteArray.empty), fun h => absurd h him⟩
    obtain ⟨g, hg⟩ := Classical.skolem.1 key
    have hget : ∀ k, k < len → ((List.range len).map g).getD k (0, ByteArray.empty) = g k := by
      intro k hk
      rw [List.getD_eq_getElem?_getD, List.getElem?_map, List.getElem?_range hk]; rfl
    refine ⟨some a, len, cap, (List.range len).map g, by simpa using hcs, ⟨by simp, fun hn => ?_⟩, fun k => ?_, by omega⟩
    · have h0 := (hg 0 (by omega)).1
      rw [Nat.zero_mul] at h0
      obtain ⟨b, off, rfl, hb⟩ := addr_plain h0
      refine ⟨b, off, rfl, hb, fun i hi => ?_⟩
      have h1 := (hg (i / 2) (by omega)).1
      have h2 := (hg (i / 2) (by omega)).2.1
      rw [addr_add] at h1 h2
      rw [addr_add] at h2
      dsimp only
      by_cases hp : i % 2 = 0
      · rw [if_pos hp, hget _ (by omega)]
        rw [show off + i = off + i / 2 * 2 by omega]
        exact h1
      · rw [if_neg hp, hget _ (by omega)]
        rw [show off + i = off + i / 2 * 2 + 1 by omega]
        exact h2
    · by_cases hk : k < len
      · rw [hget k hk]; exact (hg k (by omega)).2.2
      · rw [List.getD_eq_getElem?_getD, List.getElem?_eq_none (by simp; omega)]
        simp
theorem open_disk {r : Reach} {b0 : Nat} {v : Value} {d : DataW H} {p : List MemPlace} (hv : Value.okWide Tryz.prog w r b0 49 v) (h : DataW.Trod enc Tryz.prog w base spare held 49 v d p) :
    ∃ (A : Option Addr) (n c : Nat) (ss : List ByteArray) (A2 : Option Addr) (n2 c2 : Nat) (ws : List (Int × ByteArray)), v = .agg #[.slice A n c, .slice A2 n2 c2] ∧ Strs w w.heap.size A n ss ∧ Wrs w w.heap.size A2 n2 ws ∧
      AllS ss ∧ AllW ws ∧ n ≤ 2 ^ 63 - 1 ∧ n2 ≤ 2 ^ 63 - 1 := by
  obtain ⟨v0, v1, y0, y1, m, rfl, _, _, t0, t1⟩ := open_agg2 Tryz.underlying49 (by kernel_rfl) cLD hv h
  obtain ⟨A, n, c, ss, rfl, hS, hm, hn⟩ := open_strs_ t0
  obtain ⟨A2, n2, c2, ws, rfl, hW, hm2, hn2⟩ := open_writes_ t1
  exact ⟨A, n, c, ss, A2, n2, c2, ws, rfl, hS, hW, hm, hm2, hn, hn2⟩
end
end Go.Proofs.YteckhdkghfidiaaGreatDoor
/- From the listed errors, tables and type to what is known of them in memory, the world's shape kept. Conditions: the package's errors and the library's tables read as the program's text lays them, and the library's errorType too. -/
namespace Go.Proofs.YteckhdkghfidiaaGreatDoor
set_option maxRecDepth 100000
open Go.ChangeShapes Go.WideShapes Go.ChangeAt Go.WideMaps Go.WideElems Go.RowKit
theorem ownP : ownKnob Tryz.prog.godebug = none := by kernel_rfl
theorem laidOutP : laidOutB Tryz.prog = true := by kernel_rfl
theorem gLongP : Tryz.prog.globalNamed "loop.example/g00608/impl.errTextLong" = some 1 := by kernel_rfl
theorem gFormP : Tryz.prog.globalNamed "loop.example/g00608/impl.errTextForm" = some 0 := by kernel_rfl
theorem tLongP : (Tryz.prog.globals[1]?).map (·.type) = some 69 := by kernel_rfl
theorem tFormP : (Tryz.prog.globals[0]?).map (·.type) = some 69 := by kernel_rfl
theorem starP : "*" ++ "errors.errorString" = "*errors.errorString" := by decide
theorem rowEP (u : TypeId) (h : Tryz.prog.typeName? 3 u = some "*errors.errorString") : u = 225 :=
  typeName_ptr_named (nm := "errors.errorString") (by rw [starP]; kernel_rfl) (by kernel_rfl) (by decide) u (by rw [starP]; exact h)
theorem cellsEP : Tryz.prog.cellsOf 243 = 1 := by kernel_rfl
theorem cellsSP : Tryz.prog.cellsOf 9 = 1 := by kernel_rfl

theorem etP : Tryz.prog.globalNamed "errors.errorType" = some 2 := by kernel_rfl
theorem rtP : (Tryz.prog.cutTypes.find? (·.1 == "internal/reflectlite.rtype")).map (·.2) = some 182 := by kernel_rfl
theorem oneRowP : ((List.range (355 - 100)).filter fun t => Tryz.prog.rowNamed t [101, 114, 114, 111, 114]) = [69] := by kernel_rfl
theorem sizeP : Tryz.prog.types.size = 355 - 100 := by kernel_rfl
/-- The world with the type laid, ahead of the other variables. -/
noncomputable def typeWorld (os : Os) : World :=
  let w0 := World.holding Tryz.prog os ⟨#[], #[], []⟩
  { w0 with heap := w0.heap.modify 2 fun
      | .cells _ t frozen => .cells #[.iface 182 (.agg #[.pointer (some ⟨9, 69, none⟩)])] t frozen
      | o => o }
theorem et_of_handle {W : World} {l : List (String × DataW Unit)} (h : handlesMet Tryz.prog l W) (hl : ("errors.errorType", Rows.laid_errors_errorType) ∈ l) : Et W := by
  obtain ⟨name, u, ty, e1, e2, e3, e4, e5⟩ := h _ hl
  have en : name = [101, 114, 114, 111, 114] := (Option.some.inj e1).symm
  subst en
  obtain rfl := Option.some.inj (rtP.symm.trans e2)
  have hm : ty ∈ (List.range (355 - 100)).filter fun t => Tryz.prog.rowNamed t [101, 114, 114, 111, 114] := List.mem_filter.2 ⟨List.mem_range.2 (by rw [← sizeP]; exact e3), e4⟩
  rw [oneRowP] at hm
  obtain rfl := List.mem_singleton.1 hm
  have hh : typeHandle Tryz.prog 69 = .pointer (some ⟨9, 69, none⟩) := by kernel_rfl
  rw [hh] at e5
  unfold Et
  simpa using World.var?_cell etP e5 0
theorem laid_over {w0 : World} {laid : List (String × DataW Unit)} (args : Array Value) (hf : w0.layFits Tryz.prog laid [] = true) (hi : w0.layIfaces Tryz.prog laid (w0.layVars Tryz.prog laid) = true) :
    laidMet Tryz.prog laid ((w0.layVars Tryz.prog laid).forCall (fun _ _ => 0) ⟨#[], args, []⟩).memory := by
  have e1 : (laid.filter fun x => (laid.map (·.1)).contains x.1) = laid := List.filter_eq_self.2 fun x hx => List.contains_iff_mem.2 (List.mem_map.2 ⟨x, hx, rfl⟩)
  have e2 : (laid.filter fun x => !(laid.map (·.1)).contains x.1) = [] := List.filter_eq_nil_iff.2 fun x hx => by rw [List.contains_iff_mem.2 (List.mem_map.2 ⟨x, hx, rfl⟩)]; simp
  have h : laidMet Tryz.prog laid (w0.layVars Tryz.prog laid) := laidMet_layVars (w0 := w0) (laid.map (·.1)) [] (by rw [e1]) (by rw [e1]; exact hf) (by rw [e1]; exact hi) (by rw [e2]; exact LaidIn.none)
  exact h.of_heap (by simp [World.memory, World.forCall, Input.heap])
def plainQ : List (String × DataW Unit) := [("math/bits.deBruijn32tab", Rows.laid_math_bits_deBruijn32tab), ("math/bits.deBruijn64tab", Rows.laid_math_bits_deBruijn64tab), ("internal/strconv.uint64pow10", Rows.laid_internal_strconv_uint64pow10), ("unicode/utf8.acceptRanges", Rows.laid_unicode_utf8_acceptRanges), ("loop.example/g00608/impl.errTextLong", Rows.laid_loop_example_g00608_impl_errTextLong), ("loop.example/g00608/impl.errTextForm", Rows.laid_loop_example_g00608_impl_errTextForm), ("unicode/utf8.first", Rows.laid_unicode_utf8_first)]
def laidP : List (String × DataW Unit) := [("math/bits.deBruijn32tab", Rows.laid_math_bits_deBruijn32tab), ("math/bits.deBruijn64tab", Rows.laid_math_bits_deBruijn64tab), ("internal/strconv.uint64pow10", Rows.laid_internal_strconv_uint64pow10), ("unicode/utf8.acceptRanges", Rows.laid_unicode_utf8_acceptRanges), ("errors.errorType", Rows.laid_errors_errorType), ("loop.example/g00608/impl.errTextLong", Rows.laid_loop_example_g00608_impl_errTextLong), ("loop.example/g00608/impl.errTextForm", Rows.laid_loop_example_g00608_impl_errTextForm), ("unicode/utf8.first", Rows.laid_unicode_utf8_first)]
noncomputable def worldP (os : Os) : World := (typeWorld os).layVars Tryz.prog plainQ
theorem worldP_os (os : Os) : (worldP os).os = os := World.layVars_os _ _ _
theorem door_metP (os : Os) (args : Array Value) : laidMetH Tryz.prog laidP ((worldP os).forCall (fun _ _ => 0) ⟨#[], args, []⟩).memory :=
  laidMetH_of_parts (laid_over (laid := plainQ) args (by kernel_rfl) (by kernel_rfl)) (by kernel_rfl)
theorem of_laidP {W : World} (h : laidMetH Tryz.prog laidP W) : (∃ a0 a1, Er W a0 a1) ∧ Et W := by
  have h' : laidMet Tryz.prog plainQ W ∧ handlesMet Tryz.prog [("errors.errorType", Rows.laid_errors_errorType)] W := h
  obtain ⟨a1, a0, s1, s0, c1, c0, t1, t0, hv1, hv0, _, _, _, _, _, _, hne, hb1, hb0⟩ := laid_sentinels2 (laidMet.tail (laidMet.tail (laidMet.tail (laidMet.tail h'.1)))) gLongP tLongP gFormP tFormP Tryz.underlying69 rowEP Tryz.underlying225 Tryz.underlying243 rfl rfl Tryz.underlying9 cellsEP cellsSP
  exact ⟨⟨a0, a1, World.var?_cell gFormP hv0 0, World.var?_cell gLongP hv1 0, hne.symm, ⟨c0, t0, hb0⟩, c1, t1, hb1⟩, et_of_handle h'.2 (List.mem_singleton.2 rfl)⟩
theorem pow_datum : (Rows.laid_internal_strconv_uint64pow10 : DataW Unit) = Lib.tabData .u64 Lib.pow10Tab := by kernel_rfl
theorem gPow : ∃ g, Tryz.prog.globalNamed "internal/strconv.uint64pow10" = some g ∧ (Tryz.prog.globals[g]?).map (·.type) = some 215 := ⟨(Tryz.prog.globalNamed "internal/strconv.uint64pow10").getD 0, by kernel_rfl, by kernel_rfl⟩
theorem tab_of_laidP {W : World} (h : laidMetH Tryz.prog laidP W) : Tab W := by
  have h' : laidMet Tryz.prog plainQ W ∧ handlesMet Tryz.prog [("errors.errorType", Rows.laid_errors_errorType)] W := h
  have h1 := laidMet.tail (laidMet.tail h'.1)
  rw [pow_datum] at h1
  obtain ⟨g, hg, hty⟩ := gPow
  exact Lib.tabIs_of_head hg hty Tryz.underlying215 Tryz.underlying203 (by kernel_rfl) (by kernel_rfl) h1
theorem mx_of_shaped {W : World} (h : W.ShapedOpen Tryz.prog) : Mx W := cell_of_shapedOpen_int (zero := #[.int .i64 0]) h (of_decide_eq_true (by kernel_rfl)) (by kernel_rfl) rfl (by kernel_rfl) (by kernel_rfl) Tryz.underlying3
variable {H : Type} {enc : TypeId × Value → H}
/-- The wrap, the listed variables and the world's shape kept. -/
theorem handed_shaped {a : Assume} {C : Checked} {os : Os} {f : FuncId} {fn : Func} {s : ChangeSpec} {conds : List PathCond} {apart fresh handsOn again : Bool} {X : World → Array Value → Prop}
    (hX : ∀ (w w' : World) (args : Array Value), w.heap = w'.heap → X w args → X w' args)
    (own : ownKnob C.prog.godebug = none) (started : os.Started) (noInit : C.prog.inits.idxOf? f = none) (hfn : C.prog.funcs[f]? = some fn)
    (witness : ∃ (w : World) (tape : Tape) (i : Input), w.os = os ∧ (w.forCall tape i).Shaped C.prog ∧ i.vars = [] ∧ Input.okWide C.prog (w.forCall tape i) .any w.heap.size f i ∧
      ((s.pre enc C.prog fn conds apart (w.forCall tape i).memory i.args ∧ X (w.forCall tape i).memory i.args) ∧ sizedMet enc C.prog fn (OpenSpec.ofChange s) apart (w.forCall tape i).memory i.args) ∧ a.holds C.prog (lone (Frame.enter C.prog f i.args .normal) [] (w.forCall tape i)))
    (contract : ∀ (W : World) (base : Nat) (args : Array Value) (ds gs : List (DataW H)) (before : List MemPlace),
      (∀ (j : Nat) t v, fn.params[j]? = some t → args[j]? = some v → Value.okWide C.prog W .any base t v) →
      DataW.Whole enc C.prog fn.params.toList s.vars apart W args.toList ds gs before →
      W.ShapedOpen C.prog → X W args →
      Calls C.prog f args W fun e W' => ∃ v, e = .returned v ∧ s.post enc C.prog fn apart fresh handsOn again W args v W') :
    ReturnsInHanded a C os f .any (fun w args => (s.pre enc C.prog fn conds apart w args ∧ X w args) ∧ sizedMet enc C.prog fn (OpenSpec.ofChange s) apart w args) (s.post enc C.prog fn apart fresh handsOn again) := by
  refine returnsInHanded_of_calls own started noInit witness ?_
  intro w tape i _ hsh _ hok hpre hholds
  obtain ⟨_, _, _, fn', hfn', _, _, _, _, hval⟩ := hok
  have e : fn' = fn := Option.some.inj (hfn'.symm.trans hfn)
  subst e
  obtain ⟨⟨⟨ds, gs, before, hw, hc⟩, hx⟩, hz⟩ := hpre
  have hw' := DataW.Whole.of_heap (w' := w.forCall tape i) (by rfl) hw
  refine (contract (w.forCall tape i) w.heap.size i.args ds gs before hval hw' hsh (hX _ _ _ (by rfl) hx)).mono fun e W' ⟨v, he, hp⟩ => ?_
  subst he
  exact ChangeSpec.post_blind hp
end Go.Proofs.YteckhdkghfidiaaGreatDoor
