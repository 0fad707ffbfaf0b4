/-
  Texts of the proof, put together in their order: Nwl, Nwx, Sz, To, Eq, Lnw, Open, Dld.
  Conditions: those of each.
-/
import Derived.Test.YteckhdkghfidiaaGreatDoorMg20
import Derived.Outline
import Derived.Deep.QuietTactic
import Derived.BigQuiet
import Derived.StillTailTactics
import Derived.Lib.SmallJoins
import Derived.SliceStrings
import Derived.Deep.Slices
import Derived.Deep.Fields
import Derived.ChangeSame
import Derived.Test.YteckhdkghfidiaaGreatDoorRows
import Derived.LaidHandle
import Derived.Lay
import Derived.HandedShaped
import Derived.Shelf.Vars
import Derived.ProofKit
import Derived.LaidMore
import Derived.OpenShut
import Derived.OpenVars
import Derived.Stop.Joined
import Derived.Stop.LaidTwo
import Derived.Lib.LaidTab
import Derived.LaidLaws
import Derived.ShutString
import Derived.ChangeOld
import Derived.Below
/- Contract of the model's l04Newest. Conditions: the disk can be read; the slots' texts have at most 65536 bytes. -/
namespace Go.Proofs.YteckhdkghfidiaaGreatDoor
set_option linter.unusedVariables false
set_option maxRecDepth 100000
open Go.RowKit

def RetLN (w : World) (o : Option (U6 × Int)) (e : Ending) (w' : World) : Prop :=
  Nx w w' ∧ (o = none → e = .returned (.tuple #[.agg #[.int .i64 0, .int .i64 0, .int .i64 0, .int .i64 0, .slice none 0 0, .slice none 0 0], .int .i64 (-1)])) ∧ ∀ u s, o = some (u, s) → ∃ A c A2 c2, e = .returned (.tuple #[vU u A c A2 c2, .int .i64 s]) ∧ FitU w' w.heap.size u A c A2
theorem RetLN.no {w w' : World} {o : Option (U6 × Int)} (h : o = none) (hn : Nx w w') : RetLN w o (.returned (.tuple #[.agg #[.int .i64 0, .int .i64 0, .int .i64 0, .int .i64 0, .slice none 0 0, .slice none 0 0], .int .i64 (-1)])) w' :=
  ⟨hn, fun _ => rfl, fun u s h2 => by rw [h] at h2; cases h2⟩
theorem RetLN.yes {w w' : World} {o : Option (U6 × Int)} {u : U6} {s : Int} {A A2 : Option Addr} {c c2 : Nat} (h : o = some (u, s)) (hc : u.2.2.2.2.1.length ≤ c) (hs : SlI w' w.heap.size A u.2.2.2.2.1) (hm : SlM w' w.heap.size A2 u.2.2.2.2.2) (hn : Nx w w') :
    RetLN w o (.returned (.tuple #[vU u A c A2 c2, .int .i64 s])) w' :=
  ⟨hn, (fun h2 => by rw [h] at h2; cases h2), fun u' s' h2 => by rw [h] at h2; cases h2; exact ⟨A, c, A2, c2, rfl, hc, hs, hm⟩⟩
set_option maxHeartbeats 1600000 in
theorem l04Newest_c (A A2 : Option Addr) (n c n2 c2 B : Nat) (ss : List ByteArray) (ws : List (Int × ByteArray)) (w : World) (h : Strs w B A n ss) (h2 : Wrs w B A2 n2 ws) (hB : B ≤ w.heap.size) (ha : 1 < n) (hn : n ≤ 1048576) (hn2 : n2 ≤ 1048576) (hr0 : (readP ss ws 0).size ≤ 65536) (hr1 : (readP ss ws 1).size ≤ 65536) :
    Calls Tryz.prog 45 #[.agg #[.slice A n c, .slice A2 n2 c2]] w (RetLN w (newU (rdU (readP ss ws 0)) (rdU (readP ss ws 1)))) := by
  have b0 : Box ((w.alloc (.cells #[.slice A n c, .slice A2 n2 c2] 35)).alloc (.cells #[.int .i64 0, .int .i64 0, .int .i64 0, .int .i64 0, .slice none 0 0, .slice none 0 0] 26)) (w.heap.size + 1) 26 #[.int .i64 0, .int .i64 0, .int .i64 0, .int .i64 0, .slice none 0 0, .slice none 0 0] := by have := Box.new (w.alloc (.cells #[.slice A n c, .slice A2 n2 c2] 35)) 26 #[.int .i64 0, .int .i64 0, .int .i64 0, .int .i64 0, .slice none 0 0, .slice none 0 0]; rwa [World.size_alloc] at this
  have e0 : Box ((w.alloc (.cells #[.slice A n c, .slice A2 n2 c2] 35)).alloc (.cells #[.int .i64 0, .int .i64 0, .int .i64 0, .int .i64 0, .slice none 0 0, .slice none 0 0] 26)) w.heap.size 35 #[.slice A n c, .slice A2 n2 c2] := (Box.new w _ _).alloc _
  have hx0 := ((Nx.refl w).alloc (.cells #[.slice A n c, .slice A2 n2 c2] 35)).alloc (.cells #[.int .i64 0, .int .i64 0, .int .i64 0, .int .i64 0, .slice none 0 0, .slice none 0 0] 26)
  go_enter Tryz.func45, Tryz.ntmps45
  go_wp2_with fail
  generalize (w.alloc (.cells #[.slice A n c, .slice A2 n2 c2] 35)).alloc (.cells #[.int .i64 0, .int .i64 0, .int .i64 0, .int .i64 0, .slice none 0 0, .slice none 0 0] 26) = W at *
  obtain ⟨gR, Hg⟩ : ∃ g, Hid (w.heap.size + 1 = g) := ⟨_, rfl⟩
  have hgR : w.heap.size ≤ gR := by have := Hg.out; omega
  rw [Hg.out] at b0 ⊢
  have hltW := b0.lt
  have bW := b0
  have eW := e0
  refine (l01Read_c A A2 n c n2 c2 B 0 ss ws _ (h.below hx0 hB) (h2.below hx0 hB) (Nat.le_trans hB hx0.size) (by omega) hn hn2).mono ?_
  rintro e x0w ⟨rfl, hnx0⟩
  have hx0a := hx0.trans hnx0
  go_wp2_with fail
  refine (l04Read_c (readP ss ws 0) _ hr0).mono ?_
  rintro e y0 ⟨hny0, h1, h2'⟩
  have hx0b := hx0a.trans hny0
  have z0 := (eW.nx (hnx0.trans hny0)).c0
  have z1 := (eW.nx (hnx0.trans hny0)).c1
  have hltz := (eW.nx (hnx0.trans hny0)).lt
  clear b0 e0
  cases hu0 : rdU (readP ss ws 0) with
  | none =>
    obtain rfl := h1 hu0
    have HU0 := Lib.hid hu0
    clear h1 h2' hu0
    go_wp2_with fail
    have bA := Box.new y0 26 #[.int .i64 0, .int .i64 0, .int .i64 0, .int .i64 0, .slice none 0 0, .slice none 0 0]
    have hzA := (Nx.refl y0).alloc (.cells #[.int .i64 0, .int .i64 0, .int .i64 0, .int .i64 0, .slice none 0 0, .slice none 0 0] 26)
    have bR := (bW.nx (hnx0.trans hny0)).nx hzA
    have eR := (eW.nx (hnx0.trans hny0)).nx hzA
    have hxA := hx0b.trans hzA
    change Calls _ _ _ (y0.alloc (.cells #[.int .i64 0, .int .i64 0, .int .i64 0, .int .i64 0, .slice none 0 0, .slice none 0 0] 26)) _
    generalize y0.alloc (.cells #[.int .i64 0, .int .i64 0, .int .i64 0, .int .i64 0, .slice none 0 0, .slice none 0 0] 26) = wA at *
    obtain ⟨gA, HgA⟩ : ∃ g, Hid (y0.heap.size = g) := ⟨_, rfl⟩
    rw [HgA.out] at bA ⊢
    have hgA : gR < gA := by have := HgA.out; have := (bW.nx (hnx0.trans hny0)).lt; omega
    refine (l01Read_c A A2 n c n2 c2 B 1 ss ws _ (h.below hxA hB) (h2.below hxA hB) (Nat.le_trans hB hxA.size) (by omega) hn hn2).mono ?_
    rintro e x1w ⟨rfl, hnx1⟩
    have hx1a := hxA.trans hnx1
    go_wp2_with fail
    refine (l04Read_c (readP ss ws 1) _ hr1).mono ?_
    rintro e y1 ⟨hny1, h1, h2'⟩
    have hx1b := hx1a.trans hny1
    cases hu1 : rdU (readP ss ws 1) with
    | none =>
      obtain rfl := h1 hu1
      have HU1 := Lib.hid hu1
      clear h1 h2' hu1
      have bA1 := bA.nx (hnx1.trans hny1)
      have bR1 := bR.nx (hnx1.trans hny1)
      have hxB := hx1b
      have hltx0 : gR < x0w.heap.size := (bW.nx hnx0).lt
      have hltx1 : gR < x1w.heap.size := (bR.nx hnx1).lt
      have hltA1 := bA1.lt
      have hltR1 := bR1.lt
      have hszx := hnx1.size
      have hszy := hxA.size
      obtain ⟨m0, m1, m2, m3, m4, m5⟩ := bA1.d6
      have HN : Hid (newU (rdU (readP ss ws 0)) (rdU (readP ss ws 1)) = none) := Lib.hid (by rw [HU0.out, HU1.out]; rfl)
      obtain ⟨u0, u1, u2, u3, u4, u5⟩ := bR1.d6
      have f0 := bR1.frozen 0
      have f1 := bR1.frozen 1
      have f2 := bR1.frozen 2
      have f3 := bR1.frozen 3
      have f4 := bR1.frozen 4
      have f5 := bR1.frozen 5
      go_wp2
      have qx := ((put6_box bR1 (.int .i64 0) (.int .i64 0) (.int .i64 0) (.int .i64 0) (.slice none 0 0) (.slice none 0 0)).alloc (.cells #[.int .i64 0, .int .i64 0, .int .i64 0, .int .i64 0, .slice none 0 0, .slice none 0 0] 26))
      have hnf := ((put6_nx hxB (hgR) (.int .i64 0) (.int .i64 0) (.int .i64 0) (.int .i64 0) (.slice none 0 0) (.slice none 0 0)).alloc (.cells #[.int .i64 0, .int .i64 0, .int .i64 0, .int .i64 0, .slice none 0 0, .slice none 0 0] 26))
      change bodyPost _ _ _ _ _ (World.alloc (put6 y1 gR (.int .i64 0) (.int .i64 0) (.int .i64 0) (.int .i64 0) (.slice none 0 0) (.slice none 0 0)) (.cells #[.int .i64 0, .int .i64 0, .int .i64 0, .int .i64 0, .slice none 0 0, .slice none 0 0] 26))
      change Box (World.alloc (put6 y1 gR (.int .i64 0) (.int .i64 0) (.int .i64 0) (.int .i64 0) (.slice none 0 0) (.slice none 0 0)) (.cells #[.int .i64 0, .int .i64 0, .int .i64 0, .int .i64 0, .slice none 0 0, .slice none 0 0] 26)) _ _ _ at qx
      generalize World.alloc (put6 y1 gR (.int .i64 0) (.int .i64 0) (.int .i64 0) (.int .i64 0) (.slice none 0 0) (.slice none 0 0)) (.cells #[.int .i64 0, .int .i64 0, .int .i64 0, .int .i64 0, .slice none 0 0, .slice none 0 0] 26) = Wf at *
      obtain ⟨cq0, cq1, cq2, cq3, cq4, cq5⟩ := qx.d6
      exact bodyPost_ret (v := .tuple #[.agg #[.int .i64 0, .int .i64 0, .int .i64 0, .int .i64 0, .slice none 0 0, .slice none 0 0], .int .i64 (-1)]) (by simp [results, Tryz.results45, go_sem, cq0, cq1, cq2, cq3, cq4, cq5]) rfl (RetLN.no HN.out hnf)
    | some u =>
      obtain ⟨g1, b1, p1, q1, xs1, ms1⟩ := u
      obtain ⟨Ax1, cx1, Am1, cm1, he, hcc, hS1, hM1⟩ := h2' _ hu1
      replace he : e = .returned (.tuple #[.agg #[.int .i64 g1, .int .i64 b1, .int .i64 p1, .int .i64 q1, .slice Ax1 xs1.length cx1, .slice Am1 ms1.length cm1], .bool true]) := he
      replace hS1 : SlI y1 x1w.heap.size Ax1 xs1 := hS1
      replace hM1 : SlM y1 x1w.heap.size Am1 ms1 := hM1
      have HCC1 : Hid (xs1.length ≤ cx1) := Lib.hid hcc
      have HU1 := Lib.hid hu1
      subst he
      clear h1 h2' hu1 hcc
      have bA1 := bA.nx (hnx1.trans hny1)
      have bR1 := bR.nx (hnx1.trans hny1)
      have hxB := hx1b
      have hS1B := hS1
      have hM1B := hM1
      have hltx0 : gR < x0w.heap.size := (bW.nx hnx0).lt
      have hltx1 : gR < x1w.heap.size := (bR.nx hnx1).lt
      have hltA1 := bA1.lt
      have hltR1 := bR1.lt
      have hszx := hnx1.size
      have hszy := hxA.size
      obtain ⟨m0, m1, m2, m3, m4, m5⟩ := bA1.d6
      have HN : Hid (newU (rdU (readP ss ws 0)) (rdU (readP ss ws 1)) = some ((g1, b1, p1, q1, xs1, ms1), 1)) := Lib.hid (by rw [HU0.out, HU1.out]; rfl)
      obtain ⟨u0, u1, u2, u3, u4, u5⟩ := bR1.d6
      have f0 := bR1.frozen 0
      have f1 := bR1.frozen 1
      have f2 := bR1.frozen 2
      have f3 := bR1.frozen 3
      have f4 := bR1.frozen 4
      have f5 := bR1.frozen 5
      go_wp2
      have qx := ((put6_box bR1 (.int .i64 g1) (.int .i64 b1) (.int .i64 p1) (.int .i64 q1) (.slice Ax1 xs1.length cx1) (.slice Am1 ms1.length cm1)).alloc (.cells #[.int .i64 g1, .int .i64 b1, .int .i64 p1, .int .i64 q1, .slice Ax1 xs1.length cx1, .slice Am1 ms1.length cm1] 26))
      have hnf := ((put6_nx hxB (hgR) (.int .i64 g1) (.int .i64 b1) (.int .i64 p1) (.int .i64 q1) (.slice Ax1 xs1.length cx1) (.slice Am1 ms1.length cm1)).alloc (.cells #[.int .i64 g1, .int .i64 b1, .int .i64 p1, .int .i64 q1, .slice Ax1 xs1.length cx1, .slice Am1 ms1.length cm1] 26))
      have hsf := ((hS1B.pt6 hltx1 (.int .i64 g1) (.int .i64 b1) (.int .i64 p1) (.int .i64 q1) (.slice Ax1 xs1.length cx1) (.slice Am1 ms1.length cm1)).nx ((Nx.refl _).alloc (.cells #[.int .i64 g1, .int .i64 b1, .int .i64 p1, .int .i64 q1, .slice Ax1 xs1.length cx1, .slice Am1 ms1.length cm1] 26)))
      change Sl (World.alloc (put6 y1 gR (.int .i64 g1) (.int .i64 b1) (.int .i64 p1) (.int .i64 q1) (.slice Ax1 xs1.length cx1) (.slice Am1 ms1.length cm1)) (.cells #[.int .i64 g1, .int .i64 b1, .int .i64 p1, .int .i64 q1, .slice Ax1 xs1.length cx1, .slice Am1 ms1.length cm1] 26)) _ _ _ _ _ at hsf
      have hmf := ((hM1B.pt6 hltx1 (.int .i64 g1) (.int .i64 b1) (.int .i64 p1) (.int .i64 q1) (.slice Ax1 xs1.length cx1) (.slice Am1 ms1.length cm1)).nx ((Nx.refl _).alloc (.cells #[.int .i64 g1, .int .i64 b1, .int .i64 p1, .int .i64 q1, .slice Ax1 xs1.length cx1, .slice Am1 ms1.length cm1] 26)))
      change Sl (World.alloc (put6 y1 gR (.int .i64 g1) (.int .i64 b1) (.int .i64 p1) (.int .i64 q1) (.slice Ax1 xs1.length cx1) (.slice Am1 ms1.length cm1)) (.cells #[.int .i64 g1, .int .i64 b1, .int .i64 p1, .int .i64 q1, .slice Ax1 xs1.length cx1, .slice Am1 ms1.length cm1] 26)) _ _ _ _ _ at hmf
      change bodyPost _ _ _ _ _ (World.alloc (put6 y1 gR (.int .i64 g1) (.int .i64 b1) (.int .i64 p1) (.int .i64 q1) (.slice Ax1 xs1.length cx1) (.slice Am1 ms1.length cm1)) (.cells #[.int .i64 g1, .int .i64 b1, .int .i64 p1, .int .i64 q1, .slice Ax1 xs1.length cx1, .slice Am1 ms1.length cm1] 26))
      change Box (World.alloc (put6 y1 gR (.int .i64 g1) (.int .i64 b1) (.int .i64 p1) (.int .i64 q1) (.slice Ax1 xs1.length cx1) (.slice Am1 ms1.length cm1)) (.cells #[.int .i64 g1, .int .i64 b1, .int .i64 p1, .int .i64 q1, .slice Ax1 xs1.length cx1, .slice Am1 ms1.length cm1] 26)) _ _ _ at qx
      generalize World.alloc (put6 y1 gR (.int .i64 g1) (.int .i64 b1) (.int .i64 p1) (.int .i64 q1) (.slice Ax1 xs1.length cx1) (.slice Am1 ms1.length cm1)) (.cells #[.int .i64 g1, .int .i64 b1, .int .i64 p1, .int .i64 q1, .slice Ax1 xs1.length cx1, .slice Am1 ms1.length cm1] 26) = Wf at *
      obtain ⟨hmf0, hmf1, hmf2, hmf3, hmf4, hmf5⟩ := qx.d6
      exact bodyPost_ret (v := .tuple #[.agg #[.int .i64 g1, .int .i64 b1, .int .i64 p1, .int .i64 q1, .slice Ax1 xs1.length cx1, .slice Am1 ms1.length cm1], .int .i64 1]) (by simp [results, Tryz.results45, go_sem, hmf0, hmf1, hmf2, hmf3, hmf4, hmf5]) rfl (RetLN.yes (u := (g1, b1, p1, q1, xs1, ms1)) HN.out HCC1.out (hsf.low (by omega)) (hmf.low (by omega)) hnf)
  | some u =>
    obtain ⟨g0, b0, p0, q0, xs0, ms0⟩ := u
    obtain ⟨Ax0, cx0, Am0, cm0, he, hcc, hS0, hM0⟩ := h2' _ hu0
    replace he : e = .returned (.tuple #[.agg #[.int .i64 g0, .int .i64 b0, .int .i64 p0, .int .i64 q0, .slice Ax0 xs0.length cx0, .slice Am0 ms0.length cm0], .bool true]) := he
    replace hS0 : SlI y0 x0w.heap.size Ax0 xs0 := hS0
    replace hM0 : SlM y0 x0w.heap.size Am0 ms0 := hM0
    have HCC0 : Hid (xs0.length ≤ cx0) := Lib.hid hcc
    have HU0 := Lib.hid hu0
    subst he
    clear h1 h2' hu0 hcc
    go_wp2_with fail
    have bA := Box.new y0 26 #[.int .i64 g0, .int .i64 b0, .int .i64 p0, .int .i64 q0, .slice Ax0 xs0.length cx0, .slice Am0 ms0.length cm0]
    have hzA := (Nx.refl y0).alloc (.cells #[.int .i64 g0, .int .i64 b0, .int .i64 p0, .int .i64 q0, .slice Ax0 xs0.length cx0, .slice Am0 ms0.length cm0] 26)
    have bR := (bW.nx (hnx0.trans hny0)).nx hzA
    have eR := (eW.nx (hnx0.trans hny0)).nx hzA
    have hxA := hx0b.trans hzA
    have hS0A := hS0.nx hzA
    have hM0A := hM0.nx hzA
    change Calls _ _ _ (y0.alloc (.cells #[.int .i64 g0, .int .i64 b0, .int .i64 p0, .int .i64 q0, .slice Ax0 xs0.length cx0, .slice Am0 ms0.length cm0] 26)) _
    generalize y0.alloc (.cells #[.int .i64 g0, .int .i64 b0, .int .i64 p0, .int .i64 q0, .slice Ax0 xs0.length cx0, .slice Am0 ms0.length cm0] 26) = wA at *
    obtain ⟨gA, HgA⟩ : ∃ g, Hid (y0.heap.size = g) := ⟨_, rfl⟩
    rw [HgA.out] at bA ⊢
    have hgA : gR < gA := by have := HgA.out; have := (bW.nx (hnx0.trans hny0)).lt; omega
    refine (l01Read_c A A2 n c n2 c2 B 1 ss ws _ (h.below hxA hB) (h2.below hxA hB) (Nat.le_trans hB hxA.size) (by omega) hn hn2).mono ?_
    rintro e x1w ⟨rfl, hnx1⟩
    have hx1a := hxA.trans hnx1
    go_wp2_with fail
    refine (l04Read_c (readP ss ws 1) _ hr1).mono ?_
    rintro e y1 ⟨hny1, h1, h2'⟩
    have hx1b := hx1a.trans hny1
    cases hu1 : rdU (readP ss ws 1) with
    | none =>
      obtain rfl := h1 hu1
      have HU1 := Lib.hid hu1
      clear h1 h2' hu1
      have bA1 := bA.nx (hnx1.trans hny1)
      have bR1 := bR.nx (hnx1.trans hny1)
      have hxB := hx1b
      have hS0B := hS0A.nx (hnx1.trans hny1)
      have hM0B := hM0A.nx (hnx1.trans hny1)
      have hltx0 : gR < x0w.heap.size := (bW.nx hnx0).lt
      have hltx1 : gR < x1w.heap.size := (bR.nx hnx1).lt
      have hltA1 := bA1.lt
      have hltR1 := bR1.lt
      have hszx := hnx1.size
      have hszy := hxA.size
      obtain ⟨m0, m1, m2, m3, m4, m5⟩ := bA1.d6
      have HN : Hid (newU (rdU (readP ss ws 0)) (rdU (readP ss ws 1)) = some ((g0, b0, p0, q0, xs0, ms0), 0)) := Lib.hid (by rw [HU0.out, HU1.out]; rfl)
      obtain ⟨u0, u1, u2, u3, u4, u5⟩ := bR1.d6
      have f0 := bR1.frozen 0
      have f1 := bR1.frozen 1
      have f2 := bR1.frozen 2
      have f3 := bR1.frozen 3
      have f4 := bR1.frozen 4
      have f5 := bR1.frozen 5
      go_wp2
      have qx := ((put6_box bR1 (.int .i64 g0) (.int .i64 b0) (.int .i64 p0) (.int .i64 q0) (.slice Ax0 xs0.length cx0) (.slice Am0 ms0.length cm0)).alloc (.cells #[.int .i64 0, .int .i64 0, .int .i64 0, .int .i64 0, .slice none 0 0, .slice none 0 0] 26))
      have hnf := ((put6_nx hxB (hgR) (.int .i64 g0) (.int .i64 b0) (.int .i64 p0) (.int .i64 q0) (.slice Ax0 xs0.length cx0) (.slice Am0 ms0.length cm0)).alloc (.cells #[.int .i64 0, .int .i64 0, .int .i64 0, .int .i64 0, .slice none 0 0, .slice none 0 0] 26))
      have hsf := ((hS0B.pt6 hltx0 (.int .i64 g0) (.int .i64 b0) (.int .i64 p0) (.int .i64 q0) (.slice Ax0 xs0.length cx0) (.slice Am0 ms0.length cm0)).nx ((Nx.refl _).alloc (.cells #[.int .i64 0, .int .i64 0, .int .i64 0, .int .i64 0, .slice none 0 0, .slice none 0 0] 26)))
      change Sl (World.alloc (put6 y1 gR (.int .i64 g0) (.int .i64 b0) (.int .i64 p0) (.int .i64 q0) (.slice Ax0 xs0.length cx0) (.slice Am0 ms0.length cm0)) (.cells #[.int .i64 0, .int .i64 0, .int .i64 0, .int .i64 0, .slice none 0 0, .slice none 0 0] 26)) _ _ _ _ _ at hsf
      have hmf := ((hM0B.pt6 hltx0 (.int .i64 g0) (.int .i64 b0) (.int .i64 p0) (.int .i64 q0) (.slice Ax0 xs0.length cx0) (.slice Am0 ms0.length cm0)).nx ((Nx.refl _).alloc (.cells #[.int .i64 0, .int .i64 0, .int .i64 0, .int .i64 0, .slice none 0 0, .slice none 0 0] 26)))
      change Sl (World.alloc (put6 y1 gR (.int .i64 g0) (.int .i64 b0) (.int .i64 p0) (.int .i64 q0) (.slice Ax0 xs0.length cx0) (.slice Am0 ms0.length cm0)) (.cells #[.int .i64 0, .int .i64 0, .int .i64 0, .int .i64 0, .slice none 0 0, .slice none 0 0] 26)) _ _ _ _ _ at hmf
      change bodyPost _ _ _ _ _ (World.alloc (put6 y1 gR (.int .i64 g0) (.int .i64 b0) (.int .i64 p0) (.int .i64 q0) (.slice Ax0 xs0.length cx0) (.slice Am0 ms0.length cm0)) (.cells #[.int .i64 0, .int .i64 0, .int .i64 0, .int .i64 0, .slice none 0 0, .slice none 0 0] 26))
      change Box (World.alloc (put6 y1 gR (.int .i64 g0) (.int .i64 b0) (.int .i64 p0) (.int .i64 q0) (.slice Ax0 xs0.length cx0) (.slice Am0 ms0.length cm0)) (.cells #[.int .i64 0, .int .i64 0, .int .i64 0, .int .i64 0, .slice none 0 0, .slice none 0 0] 26)) _ _ _ at qx
      generalize World.alloc (put6 y1 gR (.int .i64 g0) (.int .i64 b0) (.int .i64 p0) (.int .i64 q0) (.slice Ax0 xs0.length cx0) (.slice Am0 ms0.length cm0)) (.cells #[.int .i64 0, .int .i64 0, .int .i64 0, .int .i64 0, .slice none 0 0, .slice none 0 0] 26) = Wf at *
      obtain ⟨hmf0, hmf1, hmf2, hmf3, hmf4, hmf5⟩ := qx.d6
      exact bodyPost_ret (v := .tuple #[.agg #[.int .i64 g0, .int .i64 b0, .int .i64 p0, .int .i64 q0, .slice Ax0 xs0.length cx0, .slice Am0 ms0.length cm0], .int .i64 0]) (by simp [results, Tryz.results45, go_sem, hmf0, hmf1, hmf2, hmf3, hmf4, hmf5]) rfl (RetLN.yes (u := (g0, b0, p0, q0, xs0, ms0)) HN.out HCC0.out (hsf.low (by omega)) (hmf.low (by omega)) hnf)
    | some u =>
      obtain ⟨g1, b1, p1, q1, xs1, ms1⟩ := u
      obtain ⟨Ax1, cx1, Am1, cm1, he, hcc, hS1, hM1⟩ := h2' _ hu1
      replace he : e = .returned (.tuple #[.agg #[.int .i64 g1, .int .i64 b1, .int .i64 p1, .int .i64 q1, .slice Ax1 xs1.length cx1, .slice Am1 ms1.length cm1], .bool true]) := he
      replace hS1 : SlI y1 x1w.heap.size Ax1 xs1 := hS1
      replace hM1 : SlM y1 x1w.heap.size Am1 ms1 := hM1
      have HCC1 : Hid (xs1.length ≤ cx1) := Lib.hid hcc
      have HU1 := Lib.hid hu1
      subst he
      clear h1 h2' hu1 hcc
      have bA1 := bA.nx (hnx1.trans hny1)
      have bR1 := bR.nx (hnx1.trans hny1)
      have hxB := hx1b
      have hS0B := hS0A.nx (hnx1.trans hny1)
      have hM0B := hM0A.nx (hnx1.trans hny1)
      have hS1B := hS1
      have hM1B := hM1
      have hltx0 : gR < x0w.heap.size := (bW.nx hnx0).lt
      have hltx1 : gR < x1w.heap.size := (bR.nx hnx1).lt
      have hltA1 := bA1.lt
      have hltR1 := bR1.lt
      have hszx := hnx1.size
      have hszy := hxA.size
      obtain ⟨m0, m1, m2, m3, m4, m5⟩ := bA1.d6
      by_cases hgt : g0 < g1
      · have hd : decide (g1 ≤ g0) = false := decide_eq_false (by omega)
        have HN : Hid (newU (rdU (readP ss ws 0)) (rdU (readP ss ws 1)) = some ((g1, b1, p1, q1, xs1, ms1), 1)) := Lib.hid (by rw [HU0.out, HU1.out]; show (if g0 < g1 then _ else _) = _; rw [if_pos hgt])
        obtain ⟨u0, u1, u2, u3, u4, u5⟩ := bR1.d6
        have f0 := bR1.frozen 0
        have f1 := bR1.frozen 1
        have f2 := bR1.frozen 2
        have f3 := bR1.frozen 3
        have f4 := bR1.frozen 4
        have f5 := bR1.frozen 5
        go_wp2
        have qx := ((put6_box bR1 (.int .i64 g1) (.int .i64 b1) (.int .i64 p1) (.int .i64 q1) (.slice Ax1 xs1.length cx1) (.slice Am1 ms1.length cm1)).alloc (.cells #[.int .i64 g1, .int .i64 b1, .int .i64 p1, .int .i64 q1, .slice Ax1 xs1.length cx1, .slice Am1 ms1.length cm1] 26))
        have hnf := ((put6_nx hxB (hgR) (.int .i64 g1) (.int .i64 b1) (.int .i64 p1) (.int .i64 q1) (.slice Ax1 xs1.length cx1) (.slice Am1 ms1.length cm1)).alloc (.cells #[.int .i64 g1, .int .i64 b1, .int .i64 p1, .int .i64 q1, .slice Ax1 xs1.length cx1, .slice Am1 ms1.length cm1] 26))
        have hsf := ((hS1B.pt6 hltx1 (.int .i64 g1) (.int .i64 b1) (.int .i64 p1) (.int .i64 q1) (.slice Ax1 xs1.length cx1) (.slice Am1 ms1.length cm1)).nx ((Nx.refl _).alloc (.cells #[.int .i64 g1, .int .i64 b1, .int .i64 p1, .int .i64 q1, .slice Ax1 xs1.length cx1, .slice Am1 ms1.length cm1] 26)))
        change Sl (World.alloc (put6 y1 gR (.int .i64 g1) (.int .i64 b1) (.int .i64 p1) (.int .i64 q1) (.slice Ax1 xs1.length cx1) (.slice Am1 ms1.length cm1)) (.cells #[.int .i64 g1, .int .i64 b1, .int .i64 p1, .int .i64 q1, .slice Ax1 xs1.length cx1, .slice Am1 ms1.length cm1] 26)) _ _ _ _ _ at hsf
        have hmf := ((hM1B.pt6 hltx1 (.int .i64 g1) (.int .i64 b1) (.int .i64 p1) (.int .i64 q1) (.slice Ax1 xs1.length cx1) (.slice Am1 ms1.length cm1)).nx ((Nx.refl _).alloc (.cells #[.int .i64 g1, .int .i64 b1, .int .i64 p1, .int .i64 q1, .slice Ax1 xs1.length cx1, .slice Am1 ms1.length cm1] 26)))
        change Sl (World.alloc (put6 y1 gR (.int .i64 g1) (.int .i64 b1) (.int .i64 p1) (.int .i64 q1) (.slice Ax1 xs1.length cx1) (.slice Am1 ms1.length cm1)) (.cells #[.int .i64 g1, .int .i64 b1, .int .i64 p1, .int .i64 q1, .slice Ax1 xs1.length cx1, .slice Am1 ms1.length cm1] 26)) _ _ _ _ _ at hmf
        change bodyPost _ _ _ _ _ (World.alloc (put6 y1 gR (.int .i64 g1) (.int .i64 b1) (.int .i64 p1) (.int .i64 q1) (.slice Ax1 xs1.length cx1) (.slice Am1 ms1.length cm1)) (.cells #[.int .i64 g1, .int .i64 b1, .int .i64 p1, .int .i64 q1, .slice Ax1 xs1.length cx1, .slice Am1 ms1.length cm1] 26))
        change Box (World.alloc (put6 y1 gR (.int .i64 g1) (.int .i64 b1) (.int .i64 p1) (.int .i64 q1) (.slice Ax1 xs1.length cx1) (.slice Am1 ms1.length cm1)) (.cells #[.int .i64 g1, .int .i64 b1, .int .i64 p1, .int .i64 q1, .slice Ax1 xs1.length cx1, .slice Am1 ms1.length cm1] 26)) _ _ _ at qx
        generalize World.alloc (put6 y1 gR (.int .i64 g1) (.int .i64 b1) (.int .i64 p1) (.int .i64 q1) (.slice Ax1 xs1.length cx1) (.slice Am1 ms1.length cm1)) (.cells #[.int .i64 g1, .int .i64 b1, .int .i64 p1, .int .i64 q1, .slice Ax1 xs1.length cx1, .slice Am1 ms1.length cm1] 26) = Wf at *
        obtain ⟨hmf0, hmf1, hmf2, hmf3, hmf4, hmf5⟩ := qx.d6
        exact bodyPost_ret (v := .tuple #[.agg #[.int .i64 g1, .int .i64 b1, .int .i64 p1, .int .i64 q1, .slice Ax1 xs1.length cx1, .slice Am1 ms1.length cm1], .int .i64 1]) (by simp [results, Tryz.results45, go_sem, hmf0, hmf1, hmf2, hmf3, hmf4, hmf5]) rfl (RetLN.yes (u := (g1, b1, p1, q1, xs1, ms1)) HN.out HCC1.out (hsf.low (by omega)) (hmf.low (by omega)) hnf)
      · have hd : decide (g1 ≤ g0) = true := decide_eq_true (by omega)
        have HN : Hid (newU (rdU (readP ss ws 0)) (rdU (readP ss ws 1)) = some ((g0, b0, p0, q0, xs0, ms0), 0)) := Lib.hid (by rw [HU0.out, HU1.out]; show (if g0 < g1 then _ else _) = _; rw [if_neg hgt])
        obtain ⟨u0, u1, u2, u3, u4, u5⟩ := bR1.d6
        have f0 := bR1.frozen 0
        have f1 := bR1.frozen 1
        have f2 := bR1.frozen 2
        have f3 := bR1.frozen 3
        have f4 := bR1.frozen 4
        have f5 := bR1.frozen 5
        go_wp2
        have qx := ((put6_box bR1 (.int .i64 g0) (.int .i64 b0) (.int .i64 p0) (.int .i64 q0) (.slice Ax0 xs0.length cx0) (.slice Am0 ms0.length cm0)).alloc (.cells #[.int .i64 g1, .int .i64 b1, .int .i64 p1, .int .i64 q1, .slice Ax1 xs1.length cx1, .slice Am1 ms1.length cm1] 26))
        have hnf := ((put6_nx hxB (hgR) (.int .i64 g0) (.int .i64 b0) (.int .i64 p0) (.int .i64 q0) (.slice Ax0 xs0.length cx0) (.slice Am0 ms0.length cm0)).alloc (.cells #[.int .i64 g1, .int .i64 b1, .int .i64 p1, .int .i64 q1, .slice Ax1 xs1.length cx1, .slice Am1 ms1.length cm1] 26))
        have hsf := ((hS0B.pt6 hltx0 (.int .i64 g0) (.int .i64 b0) (.int .i64 p0) (.int .i64 q0) (.slice Ax0 xs0.length cx0) (.slice Am0 ms0.length cm0)).nx ((Nx.refl _).alloc (.cells #[.int .i64 g1, .int .i64 b1, .int .i64 p1, .int .i64 q1, .slice Ax1 xs1.length cx1, .slice Am1 ms1.length cm1] 26)))
        change Sl (World.alloc (put6 y1 gR (.int .i64 g0) (.int .i64 b0) (.int .i64 p0) (.int .i64 q0) (.slice Ax0 xs0.length cx0) (.slice Am0 ms0.length cm0)) (.cells #[.int .i64 g1, .int .i64 b1, .int .i64 p1, .int .i64 q1, .slice Ax1 xs1.length cx1, .slice Am1 ms1.length cm1] 26)) _ _ _ _ _ at hsf
        have hmf := ((hM0B.pt6 hltx0 (.int .i64 g0) (.int .i64 b0) (.int .i64 p0) (.int .i64 q0) (.slice Ax0 xs0.length cx0) (.slice Am0 ms0.length cm0)).nx ((Nx.refl _).alloc (.cells #[.int .i64 g1, .int .i64 b1, .int .i64 p1, .int .i64 q1, .slice Ax1 xs1.length cx1, .slice Am1 ms1.length cm1] 26)))
        change Sl (World.alloc (put6 y1 gR (.int .i64 g0) (.int .i64 b0) (.int .i64 p0) (.int .i64 q0) (.slice Ax0 xs0.length cx0) (.slice Am0 ms0.length cm0)) (.cells #[.int .i64 g1, .int .i64 b1, .int .i64 p1, .int .i64 q1, .slice Ax1 xs1.length cx1, .slice Am1 ms1.length cm1] 26)) _ _ _ _ _ at hmf
        change bodyPost _ _ _ _ _ (World.alloc (put6 y1 gR (.int .i64 g0) (.int .i64 b0) (.int .i64 p0) (.int .i64 q0) (.slice Ax0 xs0.length cx0) (.slice Am0 ms0.length cm0)) (.cells #[.int .i64 g1, .int .i64 b1, .int .i64 p1, .int .i64 q1, .slice Ax1 xs1.length cx1, .slice Am1 ms1.length cm1] 26))
        change Box (World.alloc (put6 y1 gR (.int .i64 g0) (.int .i64 b0) (.int .i64 p0) (.int .i64 q0) (.slice Ax0 xs0.length cx0) (.slice Am0 ms0.length cm0)) (.cells #[.int .i64 g1, .int .i64 b1, .int .i64 p1, .int .i64 q1, .slice Ax1 xs1.length cx1, .slice Am1 ms1.length cm1] 26)) _ _ _ at qx
        generalize World.alloc (put6 y1 gR (.int .i64 g0) (.int .i64 b0) (.int .i64 p0) (.int .i64 q0) (.slice Ax0 xs0.length cx0) (.slice Am0 ms0.length cm0)) (.cells #[.int .i64 g1, .int .i64 b1, .int .i64 p1, .int .i64 q1, .slice Ax1 xs1.length cx1, .slice Am1 ms1.length cm1] 26) = Wf at *
        obtain ⟨hmf0, hmf1, hmf2, hmf3, hmf4, hmf5⟩ := qx.d6
        exact bodyPost_ret (v := .tuple #[.agg #[.int .i64 g0, .int .i64 b0, .int .i64 p0, .int .i64 q0, .slice Ax0 xs0.length cx0, .slice Am0 ms0.length cm0], .int .i64 0]) (by simp [results, Tryz.results45, go_sem, hmf0, hmf1, hmf2, hmf3, hmf4, hmf5]) rfl (RetLN.yes (u := (g0, b0, p0, q0, xs0, ms0)) HN.out HCC0.out (hsf.low (by omega)) (hmf.low (by omega)) hnf)
end Go.Proofs.YteckhdkghfidiaaGreatDoor
/- Contracts of NewestSuper, as the program and as the model have it. Conditions: the disk can be read, and holds at most 1048576 elements of a kind; for the program: the package's errors are known, the library's variables MaxLen and errorType too. -/
namespace Go.Proofs.YteckhdkghfidiaaGreatDoor
set_option linter.unusedVariables false
set_option maxRecDepth 100000
open Go.RowKit

/-- What NewestSuper answers: a super, a slot, a code. -/
def newA (ss : List ByteArray) (ws : List (Int × ByteArray)) : U6 × Int × Int :=
  if diskB ss ws then (match newU (rdU (readP ss ws 0)) (rdU (readP ss ws 1)) with | none => (zU, 0, 19) | some (u, s) => (u, s, 0)) else (zU, 0, 1)
theorem newA_bad {ss : List ByteArray} {ws : List (Int × ByteArray)} (h : diskB ss ws = false) : newA ss ws = (zU, 0, 1) := by unfold newA; rw [h]; rfl
theorem newA_none {ss : List ByteArray} {ws : List (Int × ByteArray)} (h : diskB ss ws = true) (hn : newU (rdU (readP ss ws 0)) (rdU (readP ss ws 1)) = none) : newA ss ws = (zU, 0, 19) := by unfold newA; rw [h, hn]; rfl
theorem newA_yes {ss : List ByteArray} {ws : List (Int × ByteArray)} {u : U6} {s : Int} (h : diskB ss ws = true) (hn : newU (rdU (readP ss ws 0)) (rdU (readP ss ws 1)) = some (u, s)) : newA ss ws = (u, s, 0) := by unfold newA; rw [h, hn]; rfl
theorem newU_slot {o0 o1 : Option U6} {u : U6} {s : Int} (h : newU o0 o1 = some (u, s)) : s = 0 ∨ s = 1 := by
  unfold newU at h
  split at h
  · split at h <;> cases h
    · exact .inr rfl
    · exact .inl rfl
  · cases h; exact .inl rfl
  · cases h; exact .inr rfl
  · cases h
theorem newU_from {o0 o1 : Option U6} {u : U6} {s : Int} (h : newU o0 o1 = some (u, s)) : o0 = some u ∨ o1 = some u := by
  unfold newU at h
  split at h
  · split at h <;> cases h
    · exact .inr rfl
    · exact .inl rfl
  · cases h; exact .inl rfl
  · cases h; exact .inr rfl
  · cases h
theorem newA_len (ss : List ByteArray) (ws : List (Int × ByteArray)) : (newA ss ws).1.2.2.2.2.1.length ≤ 1048576 ∧ (newA ss ws).1.2.2.2.2.2.length ≤ 1048576 := by
  unfold newA
  split
  · split
    · simp [zU]
    · rename_i u s hu
      have key : ∀ t, rdU t = some u → u.2.2.2.2.1.length ≤ 1048576 ∧ u.2.2.2.2.2.length ≤ 1048576 := fun t ht => by
        obtain ⟨g, b, p, q, xs, ms⟩ := u
        have hs := superB_yes (rdU_super ht)
        have h1 := (tbB_yes hs.2.2.2.2.1).1
        have h2 := (msB_yes hs.2.2.2.2.2).1
        exact ⟨by show xs.length ≤ _; omega, by show ms.length ≤ _; omega⟩
      rcases newU_from hu with h | h
      · exact key _ h
      · exact key _ h
  · simp [zU]
def RetNW (w : World) (ss : List ByteArray) (ws : List (Int × ByteArray)) (e : Ending) (w' : World) : Prop :=
  Nx w w' ∧ ∃ A c A2 c2, e = .returned (.tuple #[vU (newA ss ws).1 A c A2 c2, .int .i64 (newA ss ws).2.1, .int .i64 (newA ss ws).2.2]) ∧ FitU w' w.heap.size (newA ss ws).1 A c A2
theorem RetNW.un {w w' : World} {ss : List ByteArray} {ws : List (Int × ByteArray)} {e : Ending} {g b p q s k : Int} {xs : List Int} {ms : List Mrk} (h : RetNW w ss ws e w') (hq : newA ss ws = ((g, b, p, q, xs, ms), s, k)) :
    Nx w w' ∧ ∃ A c A2 c2, e = .returned (.tuple #[.agg #[.int .i64 g, .int .i64 b, .int .i64 p, .int .i64 q, .slice A xs.length c, .slice A2 ms.length c2], .int .i64 s, .int .i64 k]) ∧ xs.length ≤ c ∧ SlI w' w.heap.size A xs ∧ SlM w' w.heap.size A2 ms := by
  unfold RetNW at h; rw [hq] at h; exact h
theorem RetNW.mk {w w' : World} {ss : List ByteArray} {ws : List (Int × ByteArray)} {g b p q s k : Int} {xs : List Int} {ms : List Mrk} {c c2 : Nat} {A A2 : Option Addr} (hq : newA ss ws = ((g, b, p, q, xs, ms), s, k)) (hc : xs.length ≤ c) (hs : SlI w' w.heap.size A xs) (hm : SlM w' w.heap.size A2 ms) (hn : Nx w w') :
    RetNW w ss ws (.returned (.tuple #[.agg #[.int .i64 g, .int .i64 b, .int .i64 p, .int .i64 q, .slice A xs.length c, .slice A2 ms.length c2], .int .i64 s, .int .i64 k])) w' := by
  unfold RetNW; rw [hq]; exact ⟨hn, A, c, A2, c2, rfl, hc, hs, hm⟩
theorem RetNW.zero {w w' : World} {ss : List ByteArray} {ws : List (Int × ByteArray)} {s k : Int} (hq : newA ss ws = (zU, s, k)) (hn : Nx w w') :
    RetNW w ss ws (.returned (.tuple #[.agg #[.int .i64 0, .int .i64 0, .int .i64 0, .int .i64 0, .slice none 0 0, .slice none 0 0], .int .i64 s, .int .i64 k])) w' := RetNW.mk (g := 0) (b := 0) (p := 0) (q := 0) (xs := []) (ms := []) hq (Nat.le_refl _) SlI.nil SlM.nil hn
set_option maxHeartbeats 1600000 in
theorem implNewestSuper_c (A A2 : Option Addr) (n c n2 c2 B : Nat) (ss : List ByteArray) (ws : List (Int × ByteArray)) (w : World) (a0 a1 : Addr) (h : Strs w B A n ss) (h2 : Wrs w B A2 n2 ws) (hB : B ≤ w.heap.size) (hn : n ≤ 1048576) (hn2 : n2 ≤ 1048576) (hE : Er w a0 a1) (hM : Mx w) (hEt : Et w) :
    Calls Tryz.prog 11 #[.agg #[.slice A n c, .slice A2 n2 c2]] w (RetNW w ss ws) := by
  have b0 : Box ((w.alloc (.cells #[.slice A n c, .slice A2 n2 c2] 35)).alloc (.cells #[.int .i64 0, .int .i64 0, .int .i64 0, .int .i64 0, .slice none 0 0, .slice none 0 0] 26)) (w.heap.size + 1) 26 #[.int .i64 0, .int .i64 0, .int .i64 0, .int .i64 0, .slice none 0 0, .slice none 0 0] := by have := Box.new (w.alloc (.cells #[.slice A n c, .slice A2 n2 c2] 35)) 26 #[.int .i64 0, .int .i64 0, .int .i64 0, .int .i64 0, .slice none 0 0, .slice none 0 0]; rwa [World.size_alloc] at this
  have e0 : Box ((w.alloc (.cells #[.slice A n c, .slice A2 n2 c2] 35)).alloc (.cells #[.int .i64 0, .int .i64 0, .int .i64 0, .int .i64 0, .slice none 0 0, .slice none 0 0] 26)) w.heap.size 35 #[.slice A n c, .slice A2 n2 c2] := (Box.new w _ _).alloc _
  have hx0 := ((Nx.refl w).alloc (.cells #[.slice A n c, .slice A2 n2 c2] 35)).alloc (.cells #[.int .i64 0, .int .i64 0, .int .i64 0, .int .i64 0, .slice none 0 0, .slice none 0 0] 26)
  go_enter Tryz.func11, Tryz.ntmps11
  go_wp2_with fail
  generalize (w.alloc (.cells #[.slice A n c, .slice A2 n2 c2] 35)).alloc (.cells #[.int .i64 0, .int .i64 0, .int .i64 0, .int .i64 0, .slice none 0 0, .slice none 0 0] 26) = W at *
  obtain ⟨gR, Hg⟩ : ∃ g, Hid (w.heap.size + 1 = g) := ⟨_, rfl⟩
  have hgR : w.heap.size ≤ gR := by have := Hg.out; omega
  rw [Hg.out] at b0 ⊢
  have hltW := b0.lt
  refine (isRight_c A A2 n c n2 c2 B ss ws _ (h.below hx0 hB) (h2.below hx0 hB) (Nat.le_trans hB hx0.size) hn hn2).mono ?_
  rintro e w1 ⟨rfl, hnx1⟩
  have b1 := b0.nx hnx1
  have e1 := e0.nx hnx1
  have hx1 := hx0.trans hnx1
  clear b0 e0 hx0
  cases hD : diskB ss ws with
  | false =>
    have HA := Lib.hid (newA_bad hD)
    clear hD
    obtain ⟨u0, u1, u2, u3, u4, u5⟩ := b1.d6
    have f0 := b1.frozen 0
    have f1 := b1.frozen 1
    have f2 := b1.frozen 2
    have f3 := b1.frozen 3
    have f4 := b1.frozen 4
    have f5 := b1.frozen 5
    go_wp2
    have qx := (put6_box b1 (.int .i64 0) (.int .i64 0) (.int .i64 0) (.int .i64 0) (.slice none 0 0) (.slice none 0 0))
    have hnf := (put6_nx hx1 (hgR) (.int .i64 0) (.int .i64 0) (.int .i64 0) (.int .i64 0) (.slice none 0 0) (.slice none 0 0))
    change bodyPost _ _ _ _ _ (put6 w1 gR (.int .i64 0) (.int .i64 0) (.int .i64 0) (.int .i64 0) (.slice none 0 0) (.slice none 0 0))
    change Box (put6 w1 gR (.int .i64 0) (.int .i64 0) (.int .i64 0) (.int .i64 0) (.slice none 0 0) (.slice none 0 0)) _ _ _ at qx
    generalize put6 w1 gR (.int .i64 0) (.int .i64 0) (.int .i64 0) (.int .i64 0) (.slice none 0 0) (.slice none 0 0) = Wf at *
    obtain ⟨cq0, cq1, cq2, cq3, cq4, cq5⟩ := qx.d6
    exact bodyPost_ret (v := .tuple #[.agg #[.int .i64 0, .int .i64 0, .int .i64 0, .int .i64 0, .slice none 0 0, .slice none 0 0], .int .i64 0, .int .i64 1]) (by simp [results, Tryz.results11, go_sem, cq0, cq1, cq2, cq3, cq4, cq5]) rfl (RetNW.zero HA.out hnf)
  | true =>
    have HD := Lib.hid hD
    have h1n : 1 < n := by have := (diskB_len64 hD).1; have := h.1; omega
    clear hD
    have z0 := e1.c0
    have z1 := e1.c1
    go_wp2_with fail
    refine (newestSuper_c A A2 n c n2 c2 B ss ws _ a0 a1 (h.below hx1 hB) (h2.below hx1 hB) (Nat.le_trans hB hx1.size) h1n hn hn2 (by have := readP_size HD.out 0; omega) (by have := readP_size HD.out 1; omega) (hE.nx hx1) (hM.nx hx1) (hEt.nx hx1)).mono ?_
    rintro e w2 ⟨hnx2, h1, h2'⟩
    have b2 := b1.nx hnx2
    have hx2 := hx1.trans hnx2
    have hltR := b1.lt
    have hlt2 := b2.lt
    clear b1 e1 z0 z1
    cases hu : newU (rdU (readP ss ws 0)) (rdU (readP ss ws 1)) with
    | none =>
      have HA := Lib.hid (newA_none HD.out hu)
      have he := h1 hu
      unfold slE at he
      subst he
      clear h1 h2' hu
      go_wp2_with fail
      have b3 := b2.alloc (.cells #[.int .i64 0, .int .i64 0, .int .i64 0, .int .i64 0, .slice none 0 0, .slice none 0 0] 26)
      have hx3 := hx2.alloc (.cells #[.int .i64 0, .int .i64 0, .int .i64 0, .int .i64 0, .slice none 0 0, .slice none 0 0] 26)
      change Calls _ _ _ (w2.alloc (.cells #[.int .i64 0, .int .i64 0, .int .i64 0, .int .i64 0, .slice none 0 0, .slice none 0 0] 26)) _
      generalize w2.alloc (.cells #[.int .i64 0, .int .i64 0, .int .i64 0, .int .i64 0, .slice none 0 0, .slice none 0 0] 26) = w3 at *
      refine (slotCode_c 1 19 _ (hEt.nx hx3)).mono ?_
      rintro e w4 ⟨rfl, hnx4⟩
      have b4 := b3.nx hnx4
      have hx4 := hx3.trans hnx4
      have hlt4 := b4.lt
      obtain ⟨u0, u1, u2, u3, u4, u5⟩ := b4.d6
      have f0 := b4.frozen 0
      have f1 := b4.frozen 1
      have f2 := b4.frozen 2
      have f3 := b4.frozen 3
      have f4 := b4.frozen 4
      have f5 := b4.frozen 5
      go_wp2
      have qx := (put6_box b4 (.int .i64 0) (.int .i64 0) (.int .i64 0) (.int .i64 0) (.slice none 0 0) (.slice none 0 0))
      have hnf := (put6_nx hx4 (hgR) (.int .i64 0) (.int .i64 0) (.int .i64 0) (.int .i64 0) (.slice none 0 0) (.slice none 0 0))
      change bodyPost _ _ _ _ _ (put6 w4 gR (.int .i64 0) (.int .i64 0) (.int .i64 0) (.int .i64 0) (.slice none 0 0) (.slice none 0 0))
      change Box (put6 w4 gR (.int .i64 0) (.int .i64 0) (.int .i64 0) (.int .i64 0) (.slice none 0 0) (.slice none 0 0)) _ _ _ at qx
      generalize put6 w4 gR (.int .i64 0) (.int .i64 0) (.int .i64 0) (.int .i64 0) (.slice none 0 0) (.slice none 0 0) = Wf at *
      obtain ⟨cq0, cq1, cq2, cq3, cq4, cq5⟩ := qx.d6
      exact bodyPost_ret (v := .tuple #[.agg #[.int .i64 0, .int .i64 0, .int .i64 0, .int .i64 0, .slice none 0 0, .slice none 0 0], .int .i64 0, .int .i64 19]) (by simp [results, Tryz.results11, go_sem, cq0, cq1, cq2, cq3, cq4, cq5]) rfl (RetNW.zero HA.out hnf)
    | some us =>
      obtain ⟨⟨g, b, p, q, xs, ms⟩, sl⟩ := us
      obtain ⟨Ax, cx, Am, cm, he, hcc, hS1, hM1⟩ := h2' _ _ hu
      replace he : e = .returned (.tuple #[.agg #[.int .i64 g, .int .i64 b, .int .i64 p, .int .i64 q, .slice Ax xs.length cx, .slice Am ms.length cm], .int .i64 sl, .nilIface]) := he
      replace hS1 : SlI w2 w1.heap.size Ax xs := hS1
      replace hM1 : SlM w2 w1.heap.size Am ms := hM1
      have HCC : Hid (xs.length ≤ cx) := Lib.hid hcc
      have HA := Lib.hid (newA_yes HD.out hu)
      have hsl := newU_slot hu
      have hd0 : decide (sl < 0) = false := decide_eq_false (by rcases hsl with rfl | rfl <;> omega)
      subst he
      clear h1 h2' hu hcc hsl
      obtain ⟨u0, u1, u2, u3, u4, u5⟩ := b2.d6
      have f0 := b2.frozen 0
      have f1 := b2.frozen 1
      have f2 := b2.frozen 2
      have f3 := b2.frozen 3
      have f4 := b2.frozen 4
      have f5 := b2.frozen 5
      go_wp2
      have qx := ((put6_box b2 (.int .i64 g) (.int .i64 b) (.int .i64 p) (.int .i64 q) (.slice Ax xs.length cx) (.slice Am ms.length cm)).alloc (.cells #[.int .i64 g, .int .i64 b, .int .i64 p, .int .i64 q, .slice Ax xs.length cx, .slice Am ms.length cm] 26))
      have hnf := ((put6_nx hx2 (hgR) (.int .i64 g) (.int .i64 b) (.int .i64 p) (.int .i64 q) (.slice Ax xs.length cx) (.slice Am ms.length cm)).alloc (.cells #[.int .i64 g, .int .i64 b, .int .i64 p, .int .i64 q, .slice Ax xs.length cx, .slice Am ms.length cm] 26))
      have hsf := ((hS1.pt6 hltR (.int .i64 g) (.int .i64 b) (.int .i64 p) (.int .i64 q) (.slice Ax xs.length cx) (.slice Am ms.length cm)).nx ((Nx.refl _).alloc (.cells #[.int .i64 g, .int .i64 b, .int .i64 p, .int .i64 q, .slice Ax xs.length cx, .slice Am ms.length cm] 26)))
      change Sl (World.alloc (put6 w2 gR (.int .i64 g) (.int .i64 b) (.int .i64 p) (.int .i64 q) (.slice Ax xs.length cx) (.slice Am ms.length cm)) (.cells #[.int .i64 g, .int .i64 b, .int .i64 p, .int .i64 q, .slice Ax xs.length cx, .slice Am ms.length cm] 26)) _ _ _ _ _ at hsf
      have hmf := ((hM1.pt6 hltR (.int .i64 g) (.int .i64 b) (.int .i64 p) (.int .i64 q) (.slice Ax xs.length cx) (.slice Am ms.length cm)).nx ((Nx.refl _).alloc (.cells #[.int .i64 g, .int .i64 b, .int .i64 p, .int .i64 q, .slice Ax xs.length cx, .slice Am ms.length cm] 26)))
      change Sl (World.alloc (put6 w2 gR (.int .i64 g) (.int .i64 b) (.int .i64 p) (.int .i64 q) (.slice Ax xs.length cx) (.slice Am ms.length cm)) (.cells #[.int .i64 g, .int .i64 b, .int .i64 p, .int .i64 q, .slice Ax xs.length cx, .slice Am ms.length cm] 26)) _ _ _ _ _ at hmf
      change bodyPost _ _ _ _ _ (World.alloc (put6 w2 gR (.int .i64 g) (.int .i64 b) (.int .i64 p) (.int .i64 q) (.slice Ax xs.length cx) (.slice Am ms.length cm)) (.cells #[.int .i64 g, .int .i64 b, .int .i64 p, .int .i64 q, .slice Ax xs.length cx, .slice Am ms.length cm] 26))
      change Box (World.alloc (put6 w2 gR (.int .i64 g) (.int .i64 b) (.int .i64 p) (.int .i64 q) (.slice Ax xs.length cx) (.slice Am ms.length cm)) (.cells #[.int .i64 g, .int .i64 b, .int .i64 p, .int .i64 q, .slice Ax xs.length cx, .slice Am ms.length cm] 26)) _ _ _ at qx
      generalize World.alloc (put6 w2 gR (.int .i64 g) (.int .i64 b) (.int .i64 p) (.int .i64 q) (.slice Ax xs.length cx) (.slice Am ms.length cm)) (.cells #[.int .i64 g, .int .i64 b, .int .i64 p, .int .i64 q, .slice Ax xs.length cx, .slice Am ms.length cm] 26) = Wf at *
      obtain ⟨hmf0, hmf1, hmf2, hmf3, hmf4, hmf5⟩ := qx.d6
      exact bodyPost_ret (v := .tuple #[.agg #[.int .i64 g, .int .i64 b, .int .i64 p, .int .i64 q, .slice Ax xs.length cx, .slice Am ms.length cm], .int .i64 sl, .int .i64 0]) (by simp [results, Tryz.results11, go_sem, hmf0, hmf1, hmf2, hmf3, hmf4, hmf5]) rfl (RetNW.mk HA.out HCC.out (hsf.low (by omega)) (hmf.low (by omega)) hnf)
set_option maxHeartbeats 1600000 in
theorem specNewestSuper_c (A A2 : Option Addr) (n c n2 c2 B : Nat) (ss : List ByteArray) (ws : List (Int × ByteArray)) (w : World) (h : Strs w B A n ss) (h2 : Wrs w B A2 n2 ws) (hB : B ≤ w.heap.size) (hn : n ≤ 1048576) (hn2 : n2 ≤ 1048576) :
    Calls Tryz.prog 19 #[.agg #[.slice A n c, .slice A2 n2 c2]] w (RetNW w ss ws) := by
  have b0 : Box ((w.alloc (.cells #[.slice A n c, .slice A2 n2 c2] 35)).alloc (.cells #[.int .i64 0, .int .i64 0, .int .i64 0, .int .i64 0, .slice none 0 0, .slice none 0 0] 26)) (w.heap.size + 1) 26 #[.int .i64 0, .int .i64 0, .int .i64 0, .int .i64 0, .slice none 0 0, .slice none 0 0] := by have := Box.new (w.alloc (.cells #[.slice A n c, .slice A2 n2 c2] 35)) 26 #[.int .i64 0, .int .i64 0, .int .i64 0, .int .i64 0, .slice none 0 0, .slice none 0 0]; rwa [World.size_alloc] at this
  have e0 : Box ((w.alloc (.cells #[.slice A n c, .slice A2 n2 c2] 35)).alloc (.cells #[.int .i64 0, .int .i64 0, .int .i64 0, .int .i64 0, .slice none 0 0, .slice none 0 0] 26)) w.heap.size 35 #[.slice A n c, .slice A2 n2 c2] := (Box.new w _ _).alloc _
  have hx0 := ((Nx.refl w).alloc (.cells #[.slice A n c, .slice A2 n2 c2] 35)).alloc (.cells #[.int .i64 0, .int .i64 0, .int .i64 0, .int .i64 0, .slice none 0 0, .slice none 0 0] 26)
  go_enter Tryz.func19, Tryz.ntmps19
  go_wp2_with fail
  generalize (w.alloc (.cells #[.slice A n c, .slice A2 n2 c2] 35)).alloc (.cells #[.int .i64 0, .int .i64 0, .int .i64 0, .int .i64 0, .slice none 0 0, .slice none 0 0] 26) = W at *
  obtain ⟨gR, Hg⟩ : ∃ g, Hid (w.heap.size + 1 = g) := ⟨_, rfl⟩
  have hgR : w.heap.size ≤ gR := by have := Hg.out; omega
  rw [Hg.out] at b0 ⊢
  have hltW := b0.lt
  refine (specDiskOK_c A A2 n c n2 c2 B ss ws _ (h.below hx0 hB) (h2.below hx0 hB) (Nat.le_trans hB hx0.size) hn hn2).mono ?_
  rintro e w1 ⟨rfl, hnx1⟩
  have b1 := b0.nx hnx1
  have e1 := e0.nx hnx1
  have hx1 := hx0.trans hnx1
  clear b0 e0 hx0
  cases hD : diskB ss ws with
  | false =>
    have HA := Lib.hid (newA_bad hD)
    clear hD
    obtain ⟨u0, u1, u2, u3, u4, u5⟩ := b1.d6
    have f0 := b1.frozen 0
    have f1 := b1.frozen 1
    have f2 := b1.frozen 2
    have f3 := b1.frozen 3
    have f4 := b1.frozen 4
    have f5 := b1.frozen 5
    go_wp2
    have qx := (put6_box b1 (.int .i64 0) (.int .i64 0) (.int .i64 0) (.int .i64 0) (.slice none 0 0) (.slice none 0 0))
    have hnf := (put6_nx hx1 (hgR) (.int .i64 0) (.int .i64 0) (.int .i64 0) (.int .i64 0) (.slice none 0 0) (.slice none 0 0))
    change bodyPost _ _ _ _ _ (put6 w1 gR (.int .i64 0) (.int .i64 0) (.int .i64 0) (.int .i64 0) (.slice none 0 0) (.slice none 0 0))
    change Box (put6 w1 gR (.int .i64 0) (.int .i64 0) (.int .i64 0) (.int .i64 0) (.slice none 0 0) (.slice none 0 0)) _ _ _ at qx
    generalize put6 w1 gR (.int .i64 0) (.int .i64 0) (.int .i64 0) (.int .i64 0) (.slice none 0 0) (.slice none 0 0) = Wf at *
    obtain ⟨cq0, cq1, cq2, cq3, cq4, cq5⟩ := qx.d6
    exact bodyPost_ret (v := .tuple #[.agg #[.int .i64 0, .int .i64 0, .int .i64 0, .int .i64 0, .slice none 0 0, .slice none 0 0], .int .i64 0, .int .i64 1]) (by simp [results, Tryz.results19, go_sem, cq0, cq1, cq2, cq3, cq4, cq5]) rfl (RetNW.zero HA.out hnf)
  | true =>
    have HD := Lib.hid hD
    have h1n : 1 < n := by have := (diskB_len64 hD).1; have := h.1; omega
    clear hD
    have z0 := e1.c0
    have z1 := e1.c1
    go_wp2_with fail
    refine (l04Newest_c A A2 n c n2 c2 B ss ws _ (h.below hx1 hB) (h2.below hx1 hB) (Nat.le_trans hB hx1.size) h1n hn hn2 (by have := readP_size HD.out 0; omega) (by have := readP_size HD.out 1; omega)).mono ?_
    rintro e w2 ⟨hnx2, h1, h2'⟩
    have b2 := b1.nx hnx2
    have hx2 := hx1.trans hnx2
    have hltR := b1.lt
    have hlt2 := b2.lt
    clear b1 e1 z0 z1
    cases hu : newU (rdU (readP ss ws 0)) (rdU (readP ss ws 1)) with
    | none =>
      have HA := Lib.hid (newA_none HD.out hu)
      obtain rfl := h1 hu
      clear h1 h2' hu
      obtain ⟨u0, u1, u2, u3, u4, u5⟩ := b2.d6
      have f0 := b2.frozen 0
      have f1 := b2.frozen 1
      have f2 := b2.frozen 2
      have f3 := b2.frozen 3
      have f4 := b2.frozen 4
      have f5 := b2.frozen 5
      go_wp2
      have qx := ((put6_box b2 (.int .i64 0) (.int .i64 0) (.int .i64 0) (.int .i64 0) (.slice none 0 0) (.slice none 0 0)).alloc (.cells #[.int .i64 0, .int .i64 0, .int .i64 0, .int .i64 0, .slice none 0 0, .slice none 0 0] 26))
      have hnf := ((put6_nx hx2 (hgR) (.int .i64 0) (.int .i64 0) (.int .i64 0) (.int .i64 0) (.slice none 0 0) (.slice none 0 0)).alloc (.cells #[.int .i64 0, .int .i64 0, .int .i64 0, .int .i64 0, .slice none 0 0, .slice none 0 0] 26))
      change bodyPost _ _ _ _ _ (World.alloc (put6 w2 gR (.int .i64 0) (.int .i64 0) (.int .i64 0) (.int .i64 0) (.slice none 0 0) (.slice none 0 0)) (.cells #[.int .i64 0, .int .i64 0, .int .i64 0, .int .i64 0, .slice none 0 0, .slice none 0 0] 26))
      change Box (World.alloc (put6 w2 gR (.int .i64 0) (.int .i64 0) (.int .i64 0) (.int .i64 0) (.slice none 0 0) (.slice none 0 0)) (.cells #[.int .i64 0, .int .i64 0, .int .i64 0, .int .i64 0, .slice none 0 0, .slice none 0 0] 26)) _ _ _ at qx
      generalize World.alloc (put6 w2 gR (.int .i64 0) (.int .i64 0) (.int .i64 0) (.int .i64 0) (.slice none 0 0) (.slice none 0 0)) (.cells #[.int .i64 0, .int .i64 0, .int .i64 0, .int .i64 0, .slice none 0 0, .slice none 0 0] 26) = Wf at *
      obtain ⟨cq0, cq1, cq2, cq3, cq4, cq5⟩ := qx.d6
      exact bodyPost_ret (v := .tuple #[.agg #[.int .i64 0, .int .i64 0, .int .i64 0, .int .i64 0, .slice none 0 0, .slice none 0 0], .int .i64 0, .int .i64 19]) (by simp [results, Tryz.results19, go_sem, cq0, cq1, cq2, cq3, cq4, cq5]) rfl (RetNW.zero HA.out hnf)
    | some us =>
      obtain ⟨⟨g, b, p, q, xs, ms⟩, sl⟩ := us
      obtain ⟨Ax, cx, Am, cm, he, hcc, hS1, hM1⟩ := h2' _ _ hu
      replace he : e = .returned (.tuple #[.agg #[.int .i64 g, .int .i64 b, .int .i64 p, .int .i64 q, .slice Ax xs.length cx, .slice Am ms.length cm], .int .i64 sl]) := he
      replace hS1 : SlI w2 w1.heap.size Ax xs := hS1
      replace hM1 : SlM w2 w1.heap.size Am ms := hM1
      have HCC : Hid (xs.length ≤ cx) := Lib.hid hcc
      have HA := Lib.hid (newA_yes HD.out hu)
      have hsl := newU_slot hu
      have hd0 : decide (sl < 0) = false := decide_eq_false (by rcases hsl with rfl | rfl <;> omega)
      subst he
      clear h1 h2' hu hcc hsl
      obtain ⟨u0, u1, u2, u3, u4, u5⟩ := b2.d6
      have f0 := b2.frozen 0
      have f1 := b2.frozen 1
      have f2 := b2.frozen 2
      have f3 := b2.frozen 3
      have f4 := b2.frozen 4
      have f5 := b2.frozen 5
      go_wp2
      have qx := ((put6_box b2 (.int .i64 g) (.int .i64 b) (.int .i64 p) (.int .i64 q) (.slice Ax xs.length cx) (.slice Am ms.length cm)).alloc (.cells #[.int .i64 g, .int .i64 b, .int .i64 p, .int .i64 q, .slice Ax xs.length cx, .slice Am ms.length cm] 26))
      have hnf := ((put6_nx hx2 (hgR) (.int .i64 g) (.int .i64 b) (.int .i64 p) (.int .i64 q) (.slice Ax xs.length cx) (.slice Am ms.length cm)).alloc (.cells #[.int .i64 g, .int .i64 b, .int .i64 p, .int .i64 q, .slice Ax xs.length cx, .slice Am ms.length cm] 26))
      have hsf := ((hS1.pt6 hltR (.int .i64 g) (.int .i64 b) (.int .i64 p) (.int .i64 q) (.slice Ax xs.length cx) (.slice Am ms.length cm)).nx ((Nx.refl _).alloc (.cells #[.int .i64 g, .int .i64 b, .int .i64 p, .int .i64 q, .slice Ax xs.length cx, .slice Am ms.length cm] 26)))
      change Sl (World.alloc (put6 w2 gR (.int .i64 g) (.int .i64 b) (.int .i64 p) (.int .i64 q) (.slice Ax xs.length cx) (.slice Am ms.length cm)) (.cells #[.int .i64 g, .int .i64 b, .int .i64 p, .int .i64 q, .slice Ax xs.length cx, .slice Am ms.length cm] 26)) _ _ _ _ _ at hsf
      have hmf := ((hM1.pt6 hltR (.int .i64 g) (.int .i64 b) (.int .i64 p) (.int .i64 q) (.slice Ax xs.length cx) (.slice Am ms.length cm)).nx ((Nx.refl _).alloc (.cells #[.int .i64 g, .int .i64 b, .int .i64 p, .int .i64 q, .slice Ax xs.length cx, .slice Am ms.length cm] 26)))
      change Sl (World.alloc (put6 w2 gR (.int .i64 g) (.int .i64 b) (.int .i64 p) (.int .i64 q) (.slice Ax xs.length cx) (.slice Am ms.length cm)) (.cells #[.int .i64 g, .int .i64 b, .int .i64 p, .int .i64 q, .slice Ax xs.length cx, .slice Am ms.length cm] 26)) _ _ _ _ _ at hmf
      change bodyPost _ _ _ _ _ (World.alloc (put6 w2 gR (.int .i64 g) (.int .i64 b) (.int .i64 p) (.int .i64 q) (.slice Ax xs.length cx) (.slice Am ms.length cm)) (.cells #[.int .i64 g, .int .i64 b, .int .i64 p, .int .i64 q, .slice Ax xs.length cx, .slice Am ms.length cm] 26))
      change Box (World.alloc (put6 w2 gR (.int .i64 g) (.int .i64 b) (.int .i64 p) (.int .i64 q) (.slice Ax xs.length cx) (.slice Am ms.length cm)) (.cells #[.int .i64 g, .int .i64 b, .int .i64 p, .int .i64 q, .slice Ax xs.length cx, .slice Am ms.length cm] 26)) _ _ _ at qx
      generalize World.alloc (put6 w2 gR (.int .i64 g) (.int .i64 b) (.int .i64 p) (.int .i64 q) (.slice Ax xs.length cx) (.slice Am ms.length cm)) (.cells #[.int .i64 g, .int .i64 b, .int .i64 p, .int .i64 q, .slice Ax xs.length cx, .slice Am ms.length cm] 26) = Wf at *
      obtain ⟨hmf0, hmf1, hmf2, hmf3, hmf4, hmf5⟩ := qx.d6
      exact bodyPost_ret (v := .tuple #[.agg #[.int .i64 g, .int .i64 b, .int .i64 p, .int .i64 q, .slice Ax xs.length cx, .slice Am ms.length cm], .int .i64 sl, .int .i64 0]) (by simp [results, Tryz.results19, go_sem, hmf0, hmf1, hmf2, hmf3, hmf4, hmf5]) rfl (RetNW.mk HA.out HCC.out (hsf.low (by omega)) (hmf.low (by omega)) hnf)
end Go.Proofs.YteckhdkghfidiaaGreatDoor
/- Contracts of the laws' functions that count the sizes of disks. Conditions: what is counted can be read. -/
namespace Go.Proofs.YteckhdkghfidiaaGreatDoor
set_option linter.unusedVariables false
open Go.RowKit

def AllS (ss : List ByteArray) : Prop := ∀ k, (ss.getD k ByteArray.empty).size ≤ 2 ^ 63 - 1
def AllW (ws : List (Int × ByteArray)) : Prop := ∀ k, (ws.getD k (0, ByteArray.empty)).2.size ≤ 2 ^ 63 - 1

set_option maxHeartbeats 1000000 in
theorem szStringS_c (A : Option Addr) (n c B : Nat) (ss : List ByteArray) (left : Int) (w : World) (h : Strs w B A n ss) (hm : AllS ss) (hn : n ≤ 2 ^ 63 - 1) (h0 : 0 ≤ left) (h1 : left ≤ 1048576) :
    Calls Tryz.prog 51 #[.slice A n c, .int .i64 left] w fun e w' => e = .returned (.int .i64 (szR left (n + lenS ss))) ∧ w = w' := by
  by_cases hle : (n : Int) ≤ left
  case neg =>
    have HF := Lib.hid (szR_no (left := left) (cost := n + lenS ss) (by omega))
    have hd : decide (left - (n : Int) < 0) = true := by simp; omega
    go_enter Tryz.func51, Tryz.ntmps51
    go_wp2
    go_ret
    exact ⟨ret_int HF.out, rfl⟩
  have hd : decide (left - (n : Int) < 0) = false := by simp; omega
  go_enter Tryz.func51, Tryz.ntmps51
  go_wp2
  go_loop [1, 5] (fun l i => ∃ k : Nat, k ≤ n ∧ i = .int .i64 k ∧ (n : Int) + lenSTo ss k ≤ left ∧ l = .int .i64 (left - (n + lenSTo ss k))) (fun _ i => n - (intOf i).toNat)
  case atStart => exact ⟨0, Nat.zero_le _, rfl, by rw [lenSTo_zero]; omega, by rw [lenSTo_zero]; go_num⟩
  case round =>
    obtain ⟨k, hk, rfl, hle2, rfl⟩ := hrel
    by_cases hlt : k < n
    · obtain ⟨b, off, rfl, hb, hc⟩ := h.at_ hlt
      have hmk := hm k
      have hsu := Lib.hid (lenSTo_succ ss k (by rw [h.1]; exact hlt))
      have hle3 := Lib.hid (lenSTo_le ss (k + 1))
      generalize ss.getD k ByteArray.empty = s at *
      by_cases hg : (n : Int) + (lenSTo ss k + s.size) ≤ left
      · have hd2 : decide (left - (n + lenSTo ss k) - (s.size : Int) < 0) = false := by simp; omega
        go_wp2
        go_round
        case rel => exact ⟨k + 1, by omega, by go_num, by rw [hsu.out]; omega, by rw [hsu.out]; go_num⟩
        case measure => simp [intOf]; omega
      · have hd2 : decide (left - (n + lenSTo ss k) - (s.size : Int) < 0) = true := by simp; omega
        go_wp2
        go_ret
        exact ⟨ret_int (szR_no (by have := hsu.out; have := hle3.out; omega)), rfl⟩
    · obtain rfl : k = n := by omega
      go_wp2
      go_ret
      refine ⟨ret_int ?_, rfl⟩
      have := lenSTo_all ss
      rw [h.1] at this
      rw [this] at hle2 ⊢
      exact szR_yes hle2

set_option maxHeartbeats 1000000 in
theorem szWrite_c (a : Int) (s : ByteArray) (left : Int) (w : World) (hm : s.size ≤ 2 ^ 63 - 1) (h0 : 0 ≤ left) (h1 : left ≤ 1048576) :
    Calls Tryz.prog 108 #[.agg #[.int .i64 a, .string s], .int .i64 left] w fun e w' => e = .returned (.int .i64 (szR left s.size)) ∧ Nx w w' := by
  by_cases hle : (s.size : Int) ≤ left
  · have HF := Lib.hid (szR_yes hle)
    have hd : decide (left - (s.size : Int) < 0) = false := by simp; omega
    go_enter Tryz.func108, Tryz.ntmps108
    go_wp2
    go_ret
    exact ⟨ret_int HF.out, (Nx.refl _).alloc _⟩
  · have HF := Lib.hid (szR_no (left := left) (cost := s.size) (by omega))
    have hd : decide (left - (s.size : Int) < 0) = true := by simp; omega
    go_enter Tryz.func108, Tryz.ntmps108
    go_wp2
    go_ret
    exact ⟨ret_int HF.out, (Nx.refl _).alloc _⟩

set_option maxHeartbeats 1000000 in
theorem szWriteS_c (A : Option Addr) (n c B : Nat) (ws : List (Int × ByteArray)) (left : Int) (w : World) (h : Wrs w B A n ws) (hB : B ≤ w.heap.size) (hm : AllW ws) (hn : n ≤ 2 ^ 63 - 1) (h0 : 0 ≤ left) (h1 : left ≤ 1048576) :
    Calls Tryz.prog 52 #[.slice A n c, .int .i64 left] w fun e w' => e = .returned (.int .i64 (szR left (n + lenW ws))) ∧ Nx w w' := by
  by_cases hle : (n : Int) ≤ left
  case neg =>
    have HF := Lib.hid (szR_no (left := left) (cost := n + lenW ws) (by omega))
    have hd : decide (left - (n : Int) < 0) = true := by simp; omega
    go_enter Tryz.func52, Tryz.ntmps52
    go_wp2
    go_ret
    exact ⟨ret_int HF.out, Nx.refl _⟩
  have hd : decide (left - (n : Int) < 0) = false := by simp; omega
  go_enter Tryz.func52, Tryz.ntmps52
  go_wp2
  go_loopw [1, 5] (fun l i wr => ∃ k : Nat, k ≤ n ∧ i = .int .i64 k ∧ (n : Int) + lenWTo ws k ≤ left ∧ l = .int .i64 (left - (n + lenWTo ws k)) ∧ Nx w wr) (fun _ i _ => n - (intOf i).toNat)
  case atStart => exact ⟨0, Nat.zero_le _, rfl, by rw [lenWTo_zero]; omega, by rw [lenWTo_zero]; go_num, Nx.refl _⟩
  case round =>
    obtain ⟨k, hk, rfl, hle2, rfl, hnx⟩ := hrel
    by_cases hlt : k < n
    · obtain ⟨b, off, rfl, hb, hc0, hc1⟩ := (h.below hnx hB).at_ hlt
      have hmk := hm k
      have hsu := Lib.hid (lenWTo_succ ws k (by rw [h.1]; exact hlt))
      have hle3 := Lib.hid (lenWTo_le ws (k + 1))
      have hl0 := Lib.hid h.1
      generalize ws.getD k (0, ByteArray.empty) = s at *
      obtain ⟨a, s⟩ := s
      by_cases hg : (n : Int) + (lenWTo ws k + s.size) ≤ left
      · have hd2 : decide (left - (n + lenWTo ws k) - (s.size : Int) < 0) = false := by simp; omega
        go_wp2_with fail
        refine (szWrite_c a s _ _ hmk (by omega) (by omega)).mono ?_
        rintro e w1 ⟨rfl, hnx1⟩
        rw [← szR_yes (by omega)]
        go_wp2
        go_roundw
        case rel => exact ⟨k + 1, by omega, by go_num, by rw [hsu.out]; omega, by rw [hsu.out]; go_num, hnx.trans hnx1⟩
        case measure => simp [intOf]; omega
      · go_wp2_with fail
        refine (szWrite_c a s _ _ hmk (by omega) (by omega)).mono ?_
        rintro e w1 ⟨rfl, hnx1⟩
        rw [← szR_no (by omega)]
        go_wp2
        go_ret
        exact ⟨ret_int (szR_no (by have := hsu.out; have := hle3.out; omega)), hnx.trans hnx1⟩
    · obtain rfl : k = n := by omega
      go_wp2
      go_ret
      refine ⟨ret_int ?_, hnx⟩
      have := lenWTo_all ws
      rw [h.1] at this
      rw [this] at hle2 ⊢
      exact szR_yes hle2

def costD (n n2 : Nat) (ss : List ByteArray) (ws : List (Int × ByteArray)) : Int := (n + lenS ss) + (n2 + lenW ws)
set_option maxHeartbeats 1000000 in
theorem szDisk_c (A A2 : Option Addr) (n c n2 c2 B : Nat) (ss : List ByteArray) (ws : List (Int × ByteArray)) (left : Int) (w : World) (h : Strs w B A n ss) (h2 : Wrs w B A2 n2 ws) (hB : B ≤ w.heap.size)
    (hm : AllS ss) (hm2 : AllW ws) (hn : n ≤ 2 ^ 63 - 1) (hn2 : n2 ≤ 2 ^ 63 - 1) (h0 : 0 ≤ left) (h1 : left ≤ 1048576) :
    Calls Tryz.prog 18 #[.agg #[.slice A n c, .slice A2 n2 c2], .int .i64 left] w fun e w' => e = .returned (.int .i64 (szR left (costD n n2 ss ws))) ∧ Nx w w' := by
  by_cases hle : (n : Int) + lenS ss ≤ left
  case neg =>
    have HF := Lib.hid (szR_no (left := left) (cost := costD n n2 ss ws) (by unfold costD; omega))
    go_enter Tryz.func18, Tryz.ntmps18
    go_wp2_with fail
    refine (szStringS_c A n c B ss left _ (h.below ((Nx.refl w).alloc _) hB) hm hn h0 h1).mono ?_
    rintro e w1 ⟨rfl, rfl⟩
    rw [← szR_no (by omega)]
    go_wp2
    go_ret
    exact ⟨ret_int HF.out, (Nx.refl _).alloc _⟩
  go_enter Tryz.func18, Tryz.ntmps18
  go_wp2_with fail
  refine (szStringS_c A n c B ss left _ (h.below ((Nx.refl w).alloc _) hB) hm hn h0 h1).mono ?_
  rintro e w1 ⟨rfl, rfl⟩
  rw [← szR_yes hle]
  have hd : decide (left - (n + lenS ss) < 0) = false := by simp; omega
  go_wp2_with fail
  refine (szWriteS_c A2 n2 c2 B ws _ _ (h2.below ((Nx.refl w).alloc _) hB) (Nat.le_trans hB (by simp)) hm2 hn2 (by omega) (by omega)).mono ?_
  rintro e w1 ⟨rfl, hnx⟩
  by_cases hle2 : (n2 : Int) + lenW ws ≤ left - (n + lenS ss)
  · rw [← szR_yes hle2]
    have hd : decide (left - (n + lenS ss) - (n2 + lenW ws) < 0) = false := by simp; omega
    go_wp2
    go_ret
    refine ⟨ret_int ?_, ((Nx.refl _).alloc _).trans hnx⟩
    rw [← szR_yes (by unfold costD; omega)]
    unfold costD
    omega
  · rw [← szR_no (by omega)]
    go_wp2
    go_ret
    exact ⟨ret_int (szR_no (by unfold costD; omega)), ((Nx.refl _).alloc _).trans hnx⟩
end Go.Proofs.YteckhdkghfidiaaGreatDoor
/- Contracts of the laws' functions that make the program's disks out of the laws' own. Conditions: what is copied can be read, and holds at most 1048576 elements. -/
namespace Go.Proofs.YteckhdkghfidiaaGreatDoor
set_option linter.unusedVariables false
open Go.RowKit

theorem info_str : (Tryz.prog.info? 9).map (fun i => (i.zero, i.size, i.bytes)) = some (some (.string ByteArray.empty), 1, 16) := by kernel_rfl
theorem info_wr : (Tryz.prog.info? 85).map (fun i => (i.zero, i.size, i.bytes)) = some (some (.agg #[.int .i64 0, .string ByteArray.empty]), 2, 24) := by kernel_rfl

set_option maxHeartbeats 1000000 in
theorem toStringS_c (A : Option Addr) (n c B : Nat) (ss : List ByteArray) (w : World) (h : Strs w B A n ss) (hB : B ≤ w.heap.size) (hn : n ≤ 1048576) :
    Calls Tryz.prog 53 #[.slice A n c] w (RetS w ss) := by
  obtain ⟨i0, hi0, hz0, hz1, hz2⟩ := info_parts info_str
  have hmk := fun W => run_make_rowN (P := Tryz.prog) 32 9 i0 _ Tryz.underlying32 hi0 hz0 .i64 .i64 n n (Nat.le_refl _) (by rw [hz2]; omega) (by omega) W
  rw [hz1] at hmk
  have hmade := Own.made w #[Value.string ByteArray.empty] n 9
  go_enter Tryz.func53, Tryz.ntmps53
  go_wp2
  go_loopw [4] (fun i wr => ∃ k : Nat, k ≤ n ∧ i = .int .i64 k ∧ Fill wr w.heap.size 9 n k (strAt ss) ∧ Nx w wr) (fun i _ => n - (intOf i).toNat)
  case atStart => exact ⟨0, Nat.zero_le _, rfl, Fill.start hmade, (Nx.refl _).alloc _⟩
  case round =>
    obtain ⟨k, hk, rfl, hf, hnx⟩ := hrel
    by_cases hlt : k < n
    · obtain ⟨b, off, rfl, hb, hc⟩ := (h.below hnx hB).at_ hlt
      obtain ⟨v, hv⟩ := hf.some_ hlt
      have hz := hf.frozen k
      clear hmk hmade
      obtain ⟨s, Hs⟩ : ∃ s, Hid (ss.getD k ByteArray.empty = s) := ⟨_, rfl⟩
      rw [Hs.out] at hc
      go_wp2
      go_roundw
      case rel => exact ⟨k + 1, by omega, by go_num, hf.step hlt (by unfold strAt; rw [Hs.out]), hnx.setCell (Nat.le_refl _) _⟩
      case measure => simp [intOf]; omega
    · obtain rfl : k = n := by omega
      go_wp2
      go_ret
      exact RetS.mk_own h.1 (Nat.le_refl _) (by have := hf.done; rw [← h.1] at this; exact this) hnx

set_option maxHeartbeats 1000000 in
theorem toWrite_c (a : Int) (s : ByteArray) (w : World) :
    Calls Tryz.prog 109 #[.agg #[.int .i64 a, .string s]] w fun e w' => e = .returned (.agg #[.int .i64 a, .string s]) ∧ Nx w w' := by
  go_enter Tryz.func109, Tryz.ntmps109
  go_wp2
  exact bodyPost_ret (v := .agg #[.int .i64 a, .string s]) (by simp [results, Tryz.results109, go_sem]) rfl ⟨rfl, ((((Nx.refl _).alloc _).alloc _).alloc _)⟩

set_option maxHeartbeats 1000000 in
theorem toWriteS_c (A : Option Addr) (n c B : Nat) (ws : List (Int × ByteArray)) (w : World) (h : Wrs w B A n ws) (hB : B ≤ w.heap.size) (hn : n ≤ 1048576) :
    Calls Tryz.prog 54 #[.slice A n c] w (RetW w ws) := by
  obtain ⟨i0, hi0, hz0, hz1, hz2⟩ := info_parts info_wr
  have hmk := fun W => run_make_rowN (P := Tryz.prog) 33 85 i0 _ Tryz.underlying33 hi0 hz0 .i64 .i64 n n (Nat.le_refl _) (by rw [hz2]; omega) (by omega) W
  rw [hz1] at hmk
  have hmade := Own.made w #[Value.int .i64 0, Value.string ByteArray.empty] (n * 2) 85
  go_enter Tryz.func54, Tryz.ntmps54
  go_wp2
  go_loopw [4] (fun i wr => ∃ k : Nat, k ≤ n ∧ i = .int .i64 k ∧ Fill wr w.heap.size 85 (n * 2) (k * 2) (wrAt ws) ∧ Nx w wr) (fun i _ => n - (intOf i).toNat)
  case atStart => exact ⟨0, Nat.zero_le _, rfl, Fill.start hmade, (Nx.refl _).alloc _⟩
  case round =>
    obtain ⟨k, hk, rfl, hf, hnx⟩ := hrel
    by_cases hlt : k < n
    · obtain ⟨b, off, rfl, hb, hc0, hc1⟩ := (h.below hnx hB).at_ hlt
      clear hmk hmade
      obtain ⟨⟨a, s⟩, Hs⟩ : ∃ s, Hid (ws.getD k (0, ByteArray.empty) = s) := ⟨_, rfl⟩
      rw [Hs.out] at hc0 hc1
      go_wp2_with fail
      refine (toWrite_c a s _).mono ?_
      rintro e w1 ⟨rfl, hnx1⟩
      have hf1 := hf.nx hnx1
      obtain ⟨v0, hv0⟩ := hf1.some_ (i := k * 2) (by omega)
      obtain ⟨v1, hv1⟩ := hf1.some_ (i := k * 2 + 1) (by omega)
      have hz0 := hf1.frozen (k * 2)
      have hz1 := hf1.frozen (k * 2 + 1)
      clear hc0 hc1
      go_wp2
      go_roundw
      case rel =>
        refine ⟨k + 1, by omega, by go_num, ?_, ((hnx.trans hnx1).setCell (Nat.le_refl _) _).setCell (Nat.le_refl _) _⟩
        have e2 : (k + 1) * 2 = k * 2 + 1 + 1 := by omega
        rw [e2]
        exact (hf1.step (by omega) (by rw [wrAt_even, Hs.out])).step (by omega) (by rw [wrAt_odd, Hs.out])
      case measure => simp [intOf]; omega
    · obtain rfl : k = n := by omega
      go_wp2
      go_ret
      exact RetW.mk_own h.1 (Nat.le_refl _) (by have := hf.done; rw [← h.1] at this; exact this) hnx

set_option maxHeartbeats 1000000 in
theorem toDisk_c (A A2 : Option Addr) (n c n2 c2 B : Nat) (ss : List ByteArray) (ws : List (Int × ByteArray)) (w : World) (h : Strs w B A n ss) (h2 : Wrs w B A2 n2 ws) (hB : B ≤ w.heap.size) (hn : n ≤ 1048576) (hn2 : n2 ≤ 1048576) :
    Calls Tryz.prog 20 #[.agg #[.slice A n c, .slice A2 n2 c2]] w (RetDisk w ss ws) := by
  go_enter Tryz.func20, Tryz.ntmps20
  go_wp2_with fail
  have b0 := ((Box.new w 49 #[.slice A n c, .slice A2 n2 c2]).alloc (.cells #[.slice none 0 0, .slice none 0 0] 35)).alloc (.cells #[.slice none 0 0, .slice none 0 0] 35)
  have b1 := (Box.new (w.alloc (.cells #[.slice A n c, .slice A2 n2 c2] 49)) 35 #[.slice none 0 0, .slice none 0 0]).alloc (.cells #[.slice none 0 0, .slice none 0 0] 35)
  have b2 := Box.new ((w.alloc (.cells #[.slice A n c, .slice A2 n2 c2] 49)).alloc (.cells #[.slice none 0 0, .slice none 0 0] 35)) 35 #[.slice none 0 0, .slice none 0 0]
  have hnx0 := (((Nx.refl w).alloc (.cells #[.slice A n c, .slice A2 n2 c2] 49)).alloc (.cells #[.slice none 0 0, .slice none 0 0] 35)).alloc (.cells #[.slice none 0 0, .slice none 0 0] 35)
  simp only [World.size_alloc] at b1 b2
  have hsz : (((w.alloc (.cells #[.slice A n c, .slice A2 n2 c2] 49)).alloc (.cells #[.slice none 0 0, .slice none 0 0] 35)).alloc (.cells #[.slice none 0 0, .slice none 0 0] 35)).heap.size = w.heap.size + 1 + 1 + 1 := by simp only [World.size_alloc]
  generalize (((w.alloc (.cells #[.slice A n c, .slice A2 n2 c2] 49)).alloc (.cells #[.slice none 0 0, .slice none 0 0] 35)).alloc (.cells #[.slice none 0 0, .slice none 0 0] 35)) = W at *
  have Hsz := Lib.hid hsz
  clear hsz
  refine (toStringS_c A n c B ss _ (h.below hnx0 hB) (by have := Hsz.out; omega) hn).mono ?_
  rintro e w1 ⟨A3, n3, c3, rfl, hS, hnx1⟩
  have b2' := b2.nx hnx1
  have b0' := b0.nx hnx1
  have c00 := b0'.c0
  have c01 := b0'.c1
  have c20 := b2'.c0
  have f20 := b2'.frozen 0
  go_wp2_with fail
  have b2s := b2'.set0 (.slice A3 n3 c3)
  have b1s := (b1.nx hnx1).far (p := ⟨w.heap.size + 1 + 1, 0, none⟩) (by simp) (.slice A3 n3 c3)
  have hSs := hS.far (p := ⟨w.heap.size + 1 + 1, 0, none⟩) (by have := Hsz.out; simp; omega) (.slice A3 n3 c3)
  have hnx2 := (hnx0.trans hnx1).setCell (p := ⟨w.heap.size + 1 + 1, 0, none⟩) (by simp; omega) (.slice A3 n3 c3)
  generalize w1.setCell ⟨w.heap.size + 1 + 1, 0, none⟩ (.slice A3 n3 c3) = W2 at *
  clear b2' b0' c00 c01 c20 f20 b0 b1 b2 hS hnx1
  refine (toWriteS_c A2 n2 c2 B ws _ (h2.below hnx2 hB) (Nat.le_trans hB hnx2.size) hn2).mono ?_
  rintro e w3 ⟨A4, n4, c4, rfl, hW, hnx3⟩
  have b2t := b2s.nx hnx3
  have b1t := b1s.nx hnx3
  have hSt := hSs.nx hnx3
  have c20 := b2t.c0
  have c21 := b2t.c1
  have f21 := b2t.frozen 1
  have c10 := b1t.c0
  have c11 := b1t.c1
  have f10 := b1t.frozen 0
  have f11 := b1t.frozen 1
  go_wp2
  have hz := Hsz.out
  have hz2 := b2s.lt
  have q := (((b1t.far (p := ⟨w.heap.size + 1 + 1, 1, none⟩) (by simp) (.slice A4 n4 c4)).set0 (.slice A3 n3 c3)).set1 (.slice A4 n4 c4))
  have q0 := q.c0
  have q1 := q.c1
  have hSf := ((hSt.far (p := ⟨w.heap.size + 1 + 1, 1, none⟩) (by simp; omega) (.slice A4 n4 c4)).far (p := ⟨w.heap.size + 1, 0, none⟩) (by simp; omega) (.slice A3 n3 c3)).far (p := ⟨w.heap.size + 1, 1, none⟩) (by simp; omega) (.slice A4 n4 c4)
  have hWf := ((hW.far (p := ⟨w.heap.size + 1 + 1, 1, none⟩) (by simp; omega) (.slice A4 n4 c4)).far (p := ⟨w.heap.size + 1, 0, none⟩) (by simp; omega) (.slice A3 n3 c3)).far (p := ⟨w.heap.size + 1, 1, none⟩) (by simp; omega) (.slice A4 n4 c4)
  have hnf := (((hnx2.trans hnx3).setCell (p := ⟨w.heap.size + 1 + 1, 1, none⟩) (by simp; omega) (.slice A4 n4 c4)).setCell (p := ⟨w.heap.size + 1, 0, none⟩) (by simp) (.slice A3 n3 c3)).setCell (p := ⟨w.heap.size + 1, 1, none⟩) (by simp) (.slice A4 n4 c4)
  generalize ((w3.setCell ⟨w.heap.size + 1 + 1, 1, none⟩ (.slice A4 n4 c4)).setCell ⟨w.heap.size + 1, 0, none⟩ (.slice A3 n3 c3)).setCell ⟨w.heap.size + 1, 1, none⟩ (.slice A4 n4 c4) = Wf at *
  exact bodyPost_ret (v := .agg #[.slice A3 n3 c3, .slice A4 n4 c4]) (by simp [results, Tryz.results20, go_sem, q0, q1]) rfl ⟨A3, n3, c3, A4, n4, c4, rfl, hSf.low (by omega), hWf.low (by have := hnx2.size; omega), hnf⟩
end Go.Proofs.YteckhdkghfidiaaGreatDoor
/- Contracts of the laws' functions that compare disks, where both sides hold the same. Conditions: both sides can be read and are alike. -/
namespace Go.Proofs.YteckhdkghfidiaaGreatDoor
set_option linter.unusedVariables false
open Go.RowKit

set_option maxRecDepth 100000 in
set_option maxHeartbeats 1000000 in
theorem eqStringS_c (A A2 : Option Addr) (n c c2 B : Nat) (ss : List ByteArray) (w : World) (h : Strs w B A n ss) (h2 : Strs w B A2 n ss) (hB : B ≤ w.heap.size) (hn : n ≤ 1048576) :
    Calls Tryz.prog 57 #[.slice A n c, .slice A2 n c2] w fun e w' => e = .returned (.bool true) ∧ Nx w w' := by
  go_enter Tryz.func57, Tryz.ntmps57
  go_wp2
  go_loopw [5] (fun i wr => ∃ k : Nat, k ≤ n ∧ i = .int .i64 k ∧ Nx w wr) (fun i _ => n - (intOf i).toNat)
  case atStart => exact ⟨0, Nat.zero_le _, rfl, Nx.refl _⟩
  case round =>
    obtain ⟨k, hk, rfl, hnx⟩ := hrel
    by_cases hlt : k < n
    · obtain ⟨b, off, rfl, hb, hc⟩ := (h.below hnx hB).at_ hlt
      obtain ⟨b2, off2, rfl, hb2, hc2⟩ := (h2.below hnx hB).at_ hlt
      generalize ss.getD k ByteArray.empty = s at hc hc2
      go_wp2
      go_quiet (fail)
      go_wp2
      go_roundw
      case rel => exact ⟨k + 1, by omega, by go_num, hnx.drewN _⟩
      case measure => simp [intOf]; omega
    · go_wp2
      go_ret
      exact ⟨rfl, hnx⟩

set_option maxRecDepth 100000 in
set_option maxHeartbeats 1000000 in
theorem eqWrite_c (a : Int) (s : ByteArray) (w : World) :
    Calls Tryz.prog 111 #[.agg #[.int .i64 a, .string s], .agg #[.int .i64 a, .string s]] w fun e w' => e = .returned (.bool true) ∧ Nx w w' := by
  go_enter Tryz.func111, Tryz.ntmps111
  go_wp2
  go_ret
  exact ⟨rfl, (((Nx.refl _).alloc _).alloc _)⟩

set_option maxRecDepth 100000 in
set_option maxHeartbeats 1000000 in
theorem eqWriteS_c (A A2 : Option Addr) (n c c2 B : Nat) (ws : List (Int × ByteArray)) (w : World) (h : Wrs w B A n ws) (h2 : Wrs w B A2 n ws) (hB : B ≤ w.heap.size) (hn : n ≤ 1048576) :
    Calls Tryz.prog 58 #[.slice A n c, .slice A2 n c2] w fun e w' => e = .returned (.bool true) ∧ Nx w w' := by
  go_enter Tryz.func58, Tryz.ntmps58
  go_wp2
  go_loopw [5] (fun i wr => ∃ k : Nat, k ≤ n ∧ i = .int .i64 k ∧ Nx w wr) (fun i _ => n - (intOf i).toNat)
  case atStart => exact ⟨0, Nat.zero_le _, rfl, Nx.refl _⟩
  case round =>
    obtain ⟨k, hk, rfl, hnx⟩ := hrel
    by_cases hlt : k < n
    · obtain ⟨b, off, rfl, hb, hc, hd⟩ := (h.below hnx hB).at_ hlt
      obtain ⟨b2, off2, rfl, hb2, hc2, hd2⟩ := (h2.below hnx hB).at_ hlt
      generalize ws.getD k (0, ByteArray.empty) = s at hc hc2 hd hd2
      obtain ⟨a, s⟩ := s
      go_wp2_with fail
      go_still_tail 8, (by kernel_rfl)
      change wpList _ _ _ _ _ wr.drew
      have hnx1 : Nx w wr.drew := Below.drew hnx
      generalize wr.drew = wd at *
      go_wp2_with fail
      refine (eqWrite_c a s _).mono ?_
      rintro e w1 ⟨rfl, hnx2⟩
      go_wp2
      go_roundw
      case rel => exact ⟨k + 1, by omega, by go_num, hnx1.trans hnx2⟩
      case measure => simp [intOf]; omega
    · go_wp2
      go_ret
      exact ⟨rfl, hnx⟩

set_option maxRecDepth 100000 in
set_option maxHeartbeats 1000000 in
theorem eqDisk_c (A A2 A3 A4 : Option Addr) (n c c3 n2 c2 c4 B : Nat) (ss : List ByteArray) (ws : List (Int × ByteArray)) (w : World) (h : Strs w B A n ss) (h3 : Strs w B A3 n ss) (h2 : Wrs w B A2 n2 ws) (h4 : Wrs w B A4 n2 ws)
    (hB : B ≤ w.heap.size) (hn : n ≤ 1048576) (hn2 : n2 ≤ 1048576) :
    Calls Tryz.prog 22 #[.agg #[.slice A n c, .slice A2 n2 c2], .agg #[.slice A3 n c3, .slice A4 n2 c4]] w fun e w' => e = .returned (.bool true) ∧ Nx w w' := by
  go_enter Tryz.func22, Tryz.ntmps22
  go_wp2_with fail
  have b0 := (Box.new w 35 #[.slice A n c, .slice A2 n2 c2]).alloc (.cells #[.slice A3 n c3, .slice A4 n2 c4] 35)
  have b1 := Box.new (w.alloc (.cells #[.slice A n c, .slice A2 n2 c2] 35)) 35 #[.slice A3 n c3, .slice A4 n2 c4]
  have hnx0 := ((Nx.refl w).alloc (.cells #[.slice A n c, .slice A2 n2 c2] 35)).alloc (.cells #[.slice A3 n c3, .slice A4 n2 c4] 35)
  simp only [World.size_alloc] at b1
  generalize ((w.alloc (.cells #[.slice A n c, .slice A2 n2 c2] 35)).alloc (.cells #[.slice A3 n c3, .slice A4 n2 c4] 35)) = W at *
  refine (eqStringS_c A A3 n c c3 B ss _ (h.below hnx0 hB) (h3.below hnx0 hB) (Nat.le_trans hB hnx0.size) hn).mono ?_
  rintro e w1 ⟨rfl, hnx1⟩
  have b0' := b0.nx hnx1
  have b1' := b1.nx hnx1
  have c00 := b0'.c0
  have c01 := b0'.c1
  have c10 := b1'.c0
  have c11 := b1'.c1
  have hnx2 := hnx0.trans hnx1
  go_wp2_with fail
  refine (eqWriteS_c A2 A4 n2 c2 c4 B ws _ (h2.below hnx2 hB) (h4.below hnx2 hB) (Nat.le_trans hB hnx2.size) hn2).mono ?_
  rintro e w2 ⟨rfl, hnx3⟩
  go_wp2
  go_ret
  exact ⟨rfl, hnx2.trans hnx3⟩
end Go.Proofs.YteckhdkghfidiaaGreatDoor
/- The walk of the law FnExactNewestSuper. Conditions: the disk that comes in can be read; the package's errors are known; the library's variables MaxLen and errorType too. -/
namespace Go.Proofs.YteckhdkghfidiaaGreatDoor
set_option linter.unusedVariables false
set_option maxRecDepth 100000
open Go.RowKit

/-- A super of the call's own: its lists from block lo to below hi, the variable is block hi. -/
def Su (w : World) (lo hi : Nat) (A : Option Addr) (c : Nat) (A2 : Option Addr) (c2 : Nat) (g b p q : Int) (xs : List Int) (ms : List Mrk) : Prop :=
  Sr w lo hi A 3 xs.length (inAt xs) ∧ Sr w lo hi A2 103 (ms.length * 2) (mrAt ms) ∧ Box w hi 26 #[.int .i64 g, .int .i64 b, .int .i64 p, .int .i64 q, .slice A xs.length c, .slice A2 ms.length c2]
section
variable {w w' : World} {lo hi : Nat} {A : Option Addr} {c : Nat} {A2 : Option Addr} {c2 : Nat} {g b p q : Int} {xs : List Int} {ms : List Mrk}
theorem Su.new (hS : SlI w lo A xs) (hM : SlM w lo A2 ms) : Su (w.alloc (.cells #[.int .i64 g, .int .i64 b, .int .i64 p, .int .i64 q, .slice A xs.length c, .slice A2 ms.length c2] 26)) lo w.heap.size A c A2 c2 g b p q xs ms :=
  ⟨hS.sr.nx ((Nx.refl w).alloc _), hM.sr.nx ((Nx.refl w).alloc _), Box.new w _ _⟩
theorem Su.nx (h : Su w lo hi A c A2 c2 g b p q xs ms) (hb : Nx w w') : Su w' lo hi A c A2 c2 g b p q xs ms := ⟨h.1.nx hb, h.2.1.nx hb, h.2.2.nx hb⟩
theorem Su.rg {x y : Nat} (h : Su w lo hi A c A2 c2 g b p q xs ms) (hb : Rg x y w w') (hd : hi < x ∨ y ≤ lo) (hlo : lo ≤ hi) : Su w' lo hi A c A2 c2 g b p q xs ms :=
  ⟨h.1.rg hb (by omega), h.2.1.rg hb (by omega), h.2.2.rg hb (by omega)⟩
theorem Su.d6 (h : Su w lo hi A c A2 c2 g b p q xs ms) : w.cell? ⟨hi, 0, none⟩ = some (.int .i64 g) ∧ w.cell? ⟨hi, 1, none⟩ = some (.int .i64 b) ∧ w.cell? ⟨hi, 2, none⟩ = some (.int .i64 p) ∧ w.cell? ⟨hi, 3, none⟩ = some (.int .i64 q) ∧ w.cell? ⟨hi, 4, none⟩ = some (.slice A xs.length c) ∧ w.cell? ⟨hi, 5, none⟩ = some (.slice A2 ms.length c2) := h.2.2.d6
theorem Su.ins (h : Su w lo hi A c A2 c2 g b p q xs ms) : Ins w w.heap.size A xs := h.1.sl.row
theorem Su.mks (h : Su w lo hi A c A2 c2 g b p q xs ms) : Mks w w.heap.size A2 ms := h.2.1.sl.row
end
set_option maxHeartbeats 4000000 in
theorem lawNewestSuper (A A2 : Option Addr) (n c n2 c2 : Nat) (ss : List ByteArray) (ws : List (Int × ByteArray)) (w : World) (a0 a1 : Addr) (hE : Er w a0 a1) (hMx : Mx w) (hEt : Et w) (h : Strs w w.heap.size A n ss) (h2 : Wrs w w.heap.size A2 n2 ws)
    (hm : AllS ss) (hm2 : AllW ws) (hn : n ≤ 2 ^ 63 - 1) (hn2 : n2 ≤ 2 ^ 63 - 1) :
    Calls Tryz.prog 4 #[.agg #[.slice A n c, .slice A2 n2 c2]] w fun e w' => e = .returned (.bool true) ∧ Nx w w' := by
  have hlen := newA_len ss ws
  obtain ⟨⟨⟨g, b, p, q, xs, ms⟩, sl, cd⟩, Hq⟩ : ∃ u, Hid (newA ss ws = u) := ⟨_, rfl⟩
  rw [Hq.out] at hlen
  have Hn : Hid (xs.length ≤ 1048576) := Lib.hid hlen.1
  have Hn2 : Hid (ms.length ≤ 1048576) := Lib.hid hlen.2
  clear hlen
  obtain ⟨M, HM⟩ : ∃ M, Hid (1 + xs.length + ms.length * 2 = M) := ⟨_, rfl⟩
  have hM0 : decide ((M : Int) < 0) = false := by simp
  go_enter Tryz.func4, Tryz.ntmps4
  go_wp2_with fail
  have b0 := Box.new w 49 #[.slice A n c, .slice A2 n2 c2]
  have hnx0 := (Nx.refl w).alloc (.cells #[.slice A n c, .slice A2 n2 c2] 49)
  generalize w.alloc (.cells #[.slice A n c, .slice A2 n2 c2] 49) = W at *
  refine (szDisk_c A A2 n c n2 c2 w.heap.size ss ws _ _ (h.below hnx0 (Nat.le_refl _)) (h2.below hnx0 (Nat.le_refl _)) hnx0.size hm hm2 hn hn2 (by omega) (by omega)).mono ?_
  rintro e w1 ⟨rfl, hnx1⟩
  by_cases hle : costD n n2 ss ws ≤ 1048576
  case neg =>
    rw [← szR_no (by omega)]
    go_wp2
    go_ret
    exact ⟨rfl, hnx0.trans hnx1⟩
  rw [← szR_yes hle]
  have hn' : n ≤ 1048576 := by unfold costD at hle; omega
  have hn2' : n2 ≤ 1048576 := by unfold costD at hle; omega
  have hd : decide (1048576 - costD n n2 ss ws < 0) = false := by simp; omega
  have b1 := b0.nx hnx1
  have c0 := b1.c0
  have c1 := b1.c1
  have hx1 := hnx0.trans hnx1
  clear b0 hnx0 hnx1
  go_wp2_with fail
  refine (toDisk_c A A2 n c n2 c2 w.heap.size ss ws _ (h.below hx1 (Nat.le_refl _)) (h2.below hx1 (Nat.le_refl _)) hx1.size hn' hn2').mono ?_
  rintro e w2 ⟨A3, n3, c3, A4, n4, c4, rfl, tS, tW, hnt⟩
  obtain rfl : n = n3 := h.1.symm.trans tS.1
  obtain rfl : n2 = n4 := h2.1.symm.trans tW.1
  have b2 := b1.nx hnt
  have hx2 := hx1.trans hnt
  clear c0 c1 b1 hx1 hnt
  go_wp2_with fail
  refine (specNewestSuper_c A3 A4 n c3 n2 c4 _ ss ws _ tS.strs tW.wrs (Nat.le_refl _) hn' hn2').mono ?_
  rintro e w3 hR
  obtain ⟨hnx3, D1, d1, D2, d2, rfl, _, dS, dM⟩ := hR.un Hq.out
  have D := Su.new (c := d1) (c2 := d2) (g := g) (b := b) (p := p) (q := q) dS dM
  have hnx4 := hnx3.alloc (.cells #[.int .i64 g, .int .i64 b, .int .i64 p, .int .i64 q, .slice D1 xs.length d1, .slice D2 ms.length d2] 26)
  have b4 := b2.nx hnx4
  have hx4 := hx2.trans hnx4
  have o0 := hx2.size
  have o1 := hnx3.size
  have c0 := b4.c0
  have c1 := b4.c1
  clear b2 hx2 hnx3 hnx4 dS dM tS tW hR
  go_wp2_with fail
  generalize w3.alloc (.cells #[.int .i64 g, .int .i64 b, .int .i64 p, .int .i64 q, .slice D1 xs.length d1, .slice D2 ms.length d2] 26) = w4 at *
  refine (toDisk_c A A2 n c n2 c2 w.heap.size ss ws _ (h.below hx4 (Nat.le_refl _)) (h2.below hx4 (Nat.le_refl _)) hx4.size hn' hn2').mono ?_
  rintro e w5 ⟨X1, p3, x1, X2, p4, x2, rfl, tS, tW, hnt⟩
  obtain rfl : n = p3 := h.1.symm.trans tS.1
  obtain rfl : n2 = p4 := h2.1.symm.trans tW.1
  have X := Dk.new (c := x1) (c2 := x2) tS tW
  have hnx6 := hnt.alloc (.cells #[.slice X1 n x1, .slice X2 n2 x2] 35)
  have o2 := D.2.2.lt
  have o3 := hnt.size
  have D6 := D.nx hnx6
  have b6 := b4.nx hnx6
  have hx6 := hx4.trans hnx6
  clear c0 c1 D b4 hx4 hnt hnx6 tS tW
  have c0 := X.c0
  have c1 := X.c1
  go_wp2_with fail
  generalize w5.alloc (.cells #[.slice X1 n x1, .slice X2 n2 x2] 35) = w6 at *
  refine (implNewestSuper_c X1 X2 n x1 n2 x2 _ ss ws _ a0 a1 X.strs X.wrs (Nat.le_refl _) hn' hn2' (hE.nx hx6) (hMx.nx hx6) (hEt.nx hx6)).mono ?_
  rintro e w7 hR
  obtain ⟨hnx7, G1, g1, G2, g2, rfl, _, gS, gM⟩ := hR.un Hq.out
  have G := Su.new (c := g1) (c2 := g2) (g := g) (b := b) (p := p) (q := q) gS gM
  have hnx8 := hnx7.alloc (.cells #[.int .i64 g, .int .i64 b, .int .i64 p, .int .i64 q, .slice G1 xs.length g1, .slice G2 ms.length g2] 26)
  have o4 := X.2.2.lt
  have o5 := hnx7.size
  have D8 := D6.nx hnx8
  have X8 := X.nx hnx8
  have b8 := b6.nx hnx8
  have hx8 := hx6.trans hnx8
  clear c0 c1 D6 X b6 hx6 hnx7 hnx8 gS gM hR
  obtain ⟨y0, y1, y2, y3, y4, y5⟩ := G.d6
  obtain ⟨z0, z1, z2, z3, z4, z5⟩ := D8.d6
  have hlG := G.2.2.lt
  have hlD := D8.2.2.lt
  go_wp2_with fail
  generalize w7.alloc (.cells #[.int .i64 g, .int .i64 b, .int .i64 p, .int .i64 q, .slice G1 xs.length g1, .slice G2 ms.length g2] 26) = w8 at *
  refine (eqSuper_c g b p q G1 G2 D1 D2 g1 g2 d1 d2 _ xs ms _ G.ins G.mks D8.ins D8.mks (Nat.le_refl _) Hn.out Hn2.out).mono ?_
  rintro e w9 ⟨rfl, hnx9⟩
  have D9 := D8.nx hnx9
  have X9 := X8.nx hnx9
  have G9 := G.nx hnx9
  have b9 := b8.nx hnx9
  have hx9 := hx8.trans hnx9
  clear y0 y1 y2 y3 y4 y5 z0 z1 z2 z3 z4 z5
  clear D8 X8 G b8 hx8 hd hlG hlD
  have rx : Nx w w9.drew := hx9.drew
  go_wp2_with fail
  refine wp_region_lex [false, false, true, true, false] (fun w' => w'.cell? ⟨w5.heap.size, 0, none⟩ = some (.slice X1 n x1) ∧ w'.cell? ⟨w5.heap.size, 1, none⟩ = some (.slice X2 n2 x2) ∧ w'.cell? ⟨w.heap.size, 0, none⟩ = some (.slice A n c) ∧ w'.cell? ⟨w.heap.size, 1, none⟩ = some (.slice A2 n2 c2)) (by kernel_rfl) (by kernel_rfl) rfl (by kernel_rfl) (fun _ _ d _ _ h => by cases d <;> exact h) (by exact ⟨X9.c0, X9.c1, b9.c0, b9.c1⟩) ?_
  repeat (first | (refine HL.take (v := ?_) (by rfl) ?_ ?_; rotate_left; (· (intro w hSw; (try dsimp only at hSw); go_simp; try with_reducible rfl)); (try simp only [Act.put, List.setIfInBounds_toArray, List.set_cons_zero, List.set_cons_succ])) | (refine HL.skip (by rfl) ?_; (try simp only [Act.put, List.setIfInBounds_toArray, List.set_cons_zero, List.set_cons_succ])))
  refine HL.call (by rfl) (fun K hK => ?_)
  go_simp
  refine (toDisk_c A A2 n c n2 c2 w.heap.size ss ws _ (h.below rx (Nat.le_refl _)) (h2.below rx (Nat.le_refl _)) rx.size hn' hn2').mono ?_; rintro e u1 ⟨AA, nA, cA, AB, nB, cB, rfl, hSA, hWB, hnxA⟩; obtain rfl : n = nA := h.1.symm.trans hSA.1; obtain rfl : n2 = nB := h2.1.symm.trans hWB.1; have X9a := X9.nx (Nx.drew_r hnxA); have b9a := b9.nx (Nx.drew_r hnxA)
  go_wp2_with fail
  refine hK.out _ _ (by exact ⟨X9a.c0, X9a.c1, b9a.c0, b9a.c1⟩) ?_
  clear hK K
  try simp only [Act.put, List.setIfInBounds_toArray, List.set_cons_zero, List.set_cons_succ]
  refine HL.call (by rfl) (fun K hK => ?_)
  go_simp
  refine (eqDisk_c X1 X2 AA AB n x1 cA n2 x2 cB _ ss ws _ X9a.strs hSA.strs X9a.wrs hWB.wrs (Nat.le_refl _) hn' hn2').mono ?_; rintro e w10 ⟨rfl, hnxB⟩; have X10 := X9a.nx hnxB; have b10 := b9a.nx hnxB
  go_wp2_with fail
  refine hK.out _ _ (by exact ⟨X10.c0, X10.c1, b10.c0, b10.c1⟩) ?_
  clear hK K
  try simp only [Act.put, List.setIfInBounds_toArray, List.set_cons_zero, List.set_cons_succ]
  repeat (first | (refine HL.take (v := ?_) (by rfl) ?_ ?_; rotate_left; (· (intro w hSw; (try dsimp only at hSw); go_simp; try with_reducible rfl)); (try simp only [Act.put, List.setIfInBounds_toArray, List.set_cons_zero, List.set_cons_succ])) | (refine HL.skip (by rfl) ?_; (try simp only [Act.put, List.setIfInBounds_toArray, List.set_cons_zero, List.set_cons_succ])))
  refine HL.done ?_
  have stw10 : Nx w9 w10 := (Nx.drew_r hnxA).trans hnxB
  clear hSA hWB rx X9a b9a
  have D10 := D9.nx stw10
  have G10 := G9.nx stw10
  have hx10 := hx9.trans stw10
  clear D9 X9 G9 b9 hx9 stw10 hnxA hnxB
  have c0 := X10.c0
  have c1 := X10.c1
  go_wp2_with fail
  refine (markDisk_c X1 X2 n x1 n2 x2 1 w4.heap.size w5.heap.size ss ws _ X10.1 X10.2.1 (Nat.le_of_lt X10.2.2.lt) hn' hn2' (by omega)).mono ?_
  rintro e w11 ⟨rfl, mS, mW, hr11⟩
  have D11 := D10.rg hr11 (.inl (by omega)) (by omega)
  have G11 := G10.rg hr11 (.inr (by omega)) (by omega)
  have b11 := b10.rg hr11 (.inl (by omega))
  have hx11 := Rg.nx_of hx10 hr11 (by omega)
  clear c0 c1 D10 G10 X10 b10 hx10 hr11 mS mW
  obtain ⟨y0, y1, y2, y3, y4, y5⟩ := G11.d6
  obtain ⟨z0, z1, z2, z3, z4, z5⟩ := D11.d6
  have hk0 : decide ((1 : Int) + n + n2 * 2 < 0) = false := by simp; omega
  go_wp2_with fail
  refine (eqSuper_c g b p q G1 G2 D1 D2 g1 g2 d1 d2 _ xs ms _ G11.ins G11.mks D11.ins D11.mks (Nat.le_refl _) Hn.out Hn2.out).mono ?_
  rintro e w12 ⟨rfl, hnx12⟩
  have D12 := D11.nx hnx12
  have G12 := G11.nx hnx12
  have b12 := b11.nx hnx12
  have hx12 := hx11.trans hnx12
  clear y0 y1 y2 y3 y4 y5 z0 z1 z2 z3 z4 z5
  clear D11 G11 b11 hx11 hnx12
  obtain ⟨y0, y1, y2, y3, y4, y5⟩ := G12.d6
  go_wp2_with fail
  refine (markSuper_c g b p q G1 G2 xs.length g1 ms.length g2 1 w6.heap.size w7.heap.size _ _ _ G12.1 G12.2.1 (Nat.le_of_lt G12.2.2.lt) Hn.out Hn2.out (by omega)).mono ?_
  rintro e w13 ⟨rfl, mS, mM, hr13⟩
  rw [HM.out]
  have G13 := G12.2.2.rg hr13 (.inr (Nat.le_refl _))
  have D13 := D12.rg hr13 (.inl (by omega)) (by omega)
  have b13 := b12.rg hr13 (.inl (by omega))
  have hx13 := Rg.nx_of hx12 hr13 (by omega)
  clear y0 y1 y2 y3 y4 y5
  clear D12 G12 b12 hx12 hr13
  obtain ⟨y0, y1, y2, y3, y4, y5⟩ := G13.d6
  go_wp2_with fail
  refine (heldSuper_c g b p q G1 G2 xs.length g1 ms.length g2 1 w13.heap.size _ mS.sl.row mM.sl.row (Nat.le_refl _) Hn.out Hn2.out (by omega)).mono ?_
  rintro e w14 ⟨rfl, hnx14⟩
  rw [HM.out]
  have G14 := G13.nx hnx14
  have D14 := D13.nx hnx14
  have b14 := b13.nx hnx14
  have hx14 := hx13.trans hnx14
  have mS14 := mS.nx hnx14
  have mM14 := mM.nx hnx14
  clear y0 y1 y2 y3 y4 y5
  clear G13 D13 b13 hx13 hnx14 mS mM
  have c0 := b14.c0
  have c1 := b14.c1
  go_wp2_with fail
  refine (toDisk_c A A2 n c n2 c2 w.heap.size ss ws _ (h.below hx14 (Nat.le_refl _)) (h2.below hx14 (Nat.le_refl _)) hx14.size hn' hn2').mono ?_
  rintro e w15 ⟨A7, n7, c7, A8, n8, c8, rfl, tS, tW, hnt⟩
  obtain rfl : n = n7 := h.1.symm.trans tS.1
  obtain rfl : n2 = n8 := h2.1.symm.trans tW.1
  have G15 := G14.nx hnt
  have D15 := D14.nx hnt
  have hx15 := hx14.trans hnt
  have mS15 := mS14.nx hnt
  have mM15 := mM14.nx hnt
  clear c0 c1 G14 D14 b14 hx14 hnt mS14 mM14
  go_wp2_with fail
  refine (implNewestSuper_c A7 A8 n c7 n2 c8 _ ss ws _ a0 a1 tS.strs tW.wrs (Nat.le_refl _) hn' hn2' (hE.nx hx15) (hMx.nx hx15) (hEt.nx hx15)).mono ?_
  rintro e w16 hR
  obtain ⟨hnx16, H1, h1, H2, h2v, rfl, _, hSH, hMH⟩ := hR.un Hq.out
  have H := Su.new (c := h1) (c2 := h2v) (g := g) (b := b) (p := p) (q := q) hSH hMH
  have hnx17 := hnx16.alloc (.cells #[.int .i64 g, .int .i64 b, .int .i64 p, .int .i64 q, .slice H1 xs.length h1, .slice H2 ms.length h2v] 26)
  have G17 := G15.nx hnx17
  have D17 := D15.nx hnx17
  have hx17 := hx15.trans hnx17
  have mS17 := mS15.nx hnx17
  have mM17 := mM15.nx hnx17
  clear G15 D15 hx15 mS15 mM15 hnx16 hnx17 hSH hMH tS tW hR
  obtain ⟨y0, y1, y2, y3, y4, y5⟩ := H.d6
  obtain ⟨z0, z1, z2, z3, z4, z5⟩ := D17.d6
  have hlH := H.2.2.lt
  have hlD := D17.2.2.lt
  go_wp2_with fail
  generalize w16.alloc (.cells #[.int .i64 g, .int .i64 b, .int .i64 p, .int .i64 q, .slice H1 xs.length h1, .slice H2 ms.length h2v] 26) = w17 at *
  refine (eqSuper_c g b p q H1 H2 D1 D2 h1 h2v d1 d2 _ xs ms _ H.ins H.mks D17.ins D17.mks (Nat.le_refl _) Hn.out Hn2.out).mono ?_
  rintro e w18 ⟨rfl, hnx18⟩
  have G18 := G17.nx hnx18
  clear y0 y1 y2 y3 y4 y5 z0 z1 z2 z3 z4 z5
  obtain ⟨y0, y1, y2, y3, y4, y5⟩ := G18.d6
  go_wp2_with fail
  refine (heldSuper_c g b p q G1 G2 xs.length g1 ms.length g2 1 w18.heap.size _ (mS17.nx hnx18).sl.row (mM17.nx hnx18).sl.row (Nat.le_refl _) Hn.out Hn2.out (by omega)).mono ?_
  rintro e w19 ⟨rfl, hnx19⟩
  rw [HM.out]
  go_wp2
  go_ret
  exact ⟨rfl, (hx17.trans hnx18).trans hnx19⟩
end Go.Proofs.YteckhdkghfidiaaGreatDoor
/- A disk that comes in, opened: its texts and its writes as lists, and the cells that hold them. Conditions: the disk can be read. -/
namespace Go.Proofs.YteckhdkghfidiaaGreatDoor
set_option linter.unusedVariables false
set_option maxRecDepth 100000
open Go.Joins Go.ChangeShapes Go.WideShapes Go.RowKit Go.Deep

theorem c3_ : Tryz.prog.cellsOf 3 = 1 := by kernel_rfl
theorem c9_ : Tryz.prog.cellsOf 9 = 1 := by kernel_rfl
theorem cLD : Tryz.prog.cellsOf 49 = 2 := by kernel_rfl
theorem cLW : Tryz.prog.cellsOf 138 = 2 := by kernel_rfl

theorem addr_plain {w : World} {a : Addr} {v : Value} (h : w.cell? (a.add 0) = some v) : ∃ b off, a = ⟨b, off, none⟩ ∧ b < w.heap.size := by
  have h' : w.cell? a = some v := by simpa [Addr.add] using h
  have hs := World.cell?_spot h'
  obtain ⟨b, off, sp⟩ := a
  simp only at hs
  subst hs
  exact ⟨b, off, rfl, World.block_lt_of_cell? w _ h'⟩
theorem addr_add (b off i : Nat) : (Addr.mk b off none).add i = ⟨b, off + i, none⟩ := by
  unfold Addr.add
  by_cases h : i = 0
  · subst h; simp
  · simp [h]

section
variable {H : Type} {enc : TypeId × Value → H} {w : World} {base : Nat} {spare : Nat → Bool} {held : Bool}
theorem open_strs_ {fuel : Nat} {v : Value} {x : DataW H × List MemPlace} (h : DataW.trod enc Tryz.prog w base spare held fuel 32 [v] = some x) :
    ∃ (A : Option Addr) (n c : Nat) (ss : List ByteArray), v = .slice A n c ∧ Strs w w.heap.size A n ss ∧ AllS ss ∧ n ≤ 2 ^ 63 - 1 := by
  rcases open_strings Tryz.underlying32 Tryz.underlying9 c9_ h with ⟨hcs, _⟩ | ⟨a, len, cap, ss, hcs, _, hl, hm, hlen, _, hcell, hws⟩
  · refine ⟨none, 0, 0, [], by simpa using hcs, ⟨rfl, fun hn => absurd hn (by omega)⟩, fun k => by simp, by omega⟩
  · have hle : len ≤ ss.length := by rw [hlen]; split <;> omega
    unfold maxLen at hm hws
    refine ⟨some a, len, cap, ss.take len, by simpa using hcs, ⟨by simp [hle], fun hn => ?_⟩, fun k => ?_, by omega⟩
    · obtain ⟨b, off, rfl, hb⟩ := addr_plain (hcell 0 (by omega))
      refine ⟨b, off, rfl, hb, fun i hi => ?_⟩
      have := hcell i (by omega)
      rw [addr_add] at this
      dsimp only
      rw [this, List.getD_eq_getElem?_getD, List.getD_eq_getElem?_getD, List.getElem?_take_of_lt hi]
    · rw [List.getD_eq_getElem?_getD]
      by_cases hk : k < (ss.take len).length
      · rw [List.getElem?_eq_getElem hk]
        exact hws _ (List.mem_of_mem_take (List.getElem_mem hk))
      · rw [List.getElem?_eq_none (by omega)]
        simp
theorem open_writes_ {fuel : Nat} {v : Value} {x : DataW H × List MemPlace} (h : DataW.trod enc Tryz.prog w base spare held fuel 47 [v] = some x) :
    ∃ (A : Option Addr) (n c : Nat) (ws : List (Int × ByteArray)), v = .slice A n c ∧ Wrs w w.heap.size A n ws ∧ AllW ws ∧ n ≤ 2 ^ 63 - 1 := by
  rcases open_slice Tryz.underlying47 h with ⟨hcs, _⟩ | ⟨a, len, cap, m, n, D, Pl, hcs, _, hl, hm, hmm, _, hi⟩
  · refine ⟨none, 0, 0, [], by simpa using hcs, ⟨rfl, fun hn => absurd hn (by omega)⟩, fun k => by simp, by omega⟩
  · have hle : len ≤ m := by rw [hmm]; split <;> omega
    unfold maxLen at hm
    have key : ∀ i, ∃ p : Int × ByteArray, i < m → w.cell? (a.add (i * 2)) = some (.int .i64 p.1) ∧ w.cell? ((a.add (i * 2)).add 1) = some (.string p.2) ∧ p.2.size ≤ 2 ^ 63 - 1 := by
      intro i
      by_cases him : i < m
      · obtain ⟨cs', hc, ht⟩ := hi i him
        rw [cLW] at hc
        obtain ⟨_, hcl, hat⟩ := World.cells?_some hc
        obtain ⟨y0, y1, k, _, _, t0, t1⟩ := trod_struct2 Tryz.underlying138 ht
        match cs', hcl with
        | [u0, u1], _ =>
          have e0 : ∃ q, [u0] = [Value.int .i64 q] := by
            obtain ⟨q, e, _, _⟩ := DataW.trod_int (k := .i64) Tryz.underlying3 t0
            rw [c3_] at e
            exact ⟨q, e⟩
          have e1 : ∃ q, [u1] = [Value.string q] ∧ q.size ≤ maxLen := by
            obtain ⟨q, e, _, hq⟩ := DataW.trod_string Tryz.underlying9 t1
            rw [c9_] at e
            exact ⟨q, e, hq⟩
          obtain ⟨q0, e0⟩ := e0
          obtain ⟨q1, e1, hq⟩ := e1
          simp only [List.cons.injEq, and_true] at e0 e1
          subst e0 e1
          refine ⟨(q0, q1), fun _ => ⟨?_, hat 1 (by omega), by unfold maxLen at hq; exact hq⟩⟩
          have := hat 0 (by omega)
          simpa [Addr.add] using this
      · exact ⟨(0, ByteArray.empty), fun h => absurd h him⟩
    obtain ⟨g, hg⟩ := Classical.skolem.1 key
    have hget : ∀ k, k < len → ((List.range len).map g).getD k (0, ByteArray.empty) = g k := by
      intro k hk
      rw [List.getD_eq_getElem?_getD, List.getElem?_map, List.getElem?_range hk]; rfl
    refine ⟨some a, len, cap, (List.range len).map g, by simpa using hcs, ⟨by simp, fun hn => ?_⟩, fun k => ?_, by omega⟩
    · have h0 := (hg 0 (by omega)).1
      rw [Nat.zero_mul] at h0
      obtain ⟨b, off, rfl, hb⟩ := addr_plain h0
      refine ⟨b, off, rfl, hb, fun i hi => ?_⟩
      have h1 := (hg (i / 2) (by omega)).1
      have h2 := (hg (i / 2) (by omega)).2.1
      rw [addr_add] at h1 h2
      rw [addr_add] at h2
      dsimp only
      by_cases hp : i % 2 = 0
      · rw [if_pos hp, hget _ (by omega)]
        rw [show off + i = off + i / 2 * 2 by omega]
        exact h1
      · rw [if_neg hp, hget _ (by omega)]
        rw [show off + i = off + i / 2 * 2 + 1 by omega]
        exact h2
    · by_cases hk : k < len
      · rw [hget k hk]; exact (hg k (by omega)).2.2
      · rw [List.getD_eq_getElem?_getD, List.getElem?_eq_none (by simp; omega)]
        simp
theorem open_disk {r : Reach} {b0 : Nat} {v : Value} {d : DataW H} {p : List MemPlace} (hv : Value.okWide Tryz.prog w r b0 49 v) (h : DataW.Trod enc Tryz.prog w base spare held 49 v d p) :
    ∃ (A : Option Addr) (n c : Nat) (ss : List ByteArray) (A2 : Option Addr) (n2 c2 : Nat) (ws : List (Int × ByteArray)), v = .agg #[.slice A n c, .slice A2 n2 c2] ∧ Strs w w.heap.size A n ss ∧ Wrs w w.heap.size A2 n2 ws ∧
      AllS ss ∧ AllW ws ∧ n ≤ 2 ^ 63 - 1 ∧ n2 ≤ 2 ^ 63 - 1 := by
  obtain ⟨v0, v1, y0, y1, m, rfl, _, _, t0, t1⟩ := open_agg2 Tryz.underlying49 (by kernel_rfl) cLD hv h
  obtain ⟨A, n, c, ss, rfl, hS, hm, hn⟩ := open_strs_ t0
  obtain ⟨A2, n2, c2, ws, rfl, hW, hm2, hn2⟩ := open_writes_ t1
  exact ⟨A, n, c, ss, A2, n2, c2, ws, rfl, hS, hW, hm, hm2, hn, hn2⟩
end
end Go.Proofs.YteckhdkghfidiaaGreatDoor
/- From the listed errors, tables and type to what is known of them in memory, the world's shape kept. Conditions: the package's errors and the library's tables read as the program's text lays them, and the library's errorType too. -/
namespace Go.Proofs.YteckhdkghfidiaaGreatDoor
set_option maxRecDepth 100000
open Go.ChangeShapes Go.WideShapes Go.ChangeAt Go.WideMaps Go.WideElems Go.RowKit
theorem ownP : ownKnob Tryz.prog.godebug = none := by kernel_rfl
theorem laidOutP : laidOutB Tryz.prog = true := by kernel_rfl
theorem gLongP : Tryz.prog.globalNamed "loop.example/g00608/impl.errTextLong" = some 1 := by kernel_rfl
theorem gFormP : Tryz.prog.globalNamed "loop.example/g00608/impl.errTextForm" = some 0 := by kernel_rfl
theorem tLongP : (Tryz.prog.globals[1]?).map (·.type) = some 69 := by kernel_rfl
theorem tFormP : (Tryz.prog.globals[0]?).map (·.type) = some 69 := by kernel_rfl
theorem starP : "*" ++ "errors.errorString" = "*errors.errorString" := by decide
theorem rowEP (u : TypeId) (h : Tryz.prog.typeName? 3 u = some "*errors.errorString") : u = 225 :=
  typeName_ptr_named (nm := "errors.errorString") (by rw [starP]; kernel_rfl) (by kernel_rfl) (by decide) u (by rw [starP]; exact h)
theorem cellsEP : Tryz.prog.cellsOf 243 = 1 := by kernel_rfl
theorem cellsSP : Tryz.prog.cellsOf 9 = 1 := by kernel_rfl

theorem etP : Tryz.prog.globalNamed "errors.errorType" = some 2 := by kernel_rfl
theorem rtP : (Tryz.prog.cutTypes.find? (·.1 == "internal/reflectlite.rtype")).map (·.2) = some 182 := by kernel_rfl
theorem oneRowP : ((List.range (355 - 100)).filter fun t => Tryz.prog.rowNamed t [101, 114, 114, 111, 114]) = [69] := by kernel_rfl
theorem sizeP : Tryz.prog.types.size = 355 - 100 := by kernel_rfl
/-- The world with the type laid, ahead of the other variables. -/
noncomputable def typeWorld (os : Os) : World :=
  let w0 := World.holding Tryz.prog os ⟨#[], #[], []⟩
  { w0 with heap := w0.heap.modify 2 fun
      | .cells _ t frozen => .cells #[.iface 182 (.agg #[.pointer (some ⟨9, 69, none⟩)])] t frozen
      | o => o }
theorem et_of_handle {W : World} {l : List (String × DataW Unit)} (h : handlesMet Tryz.prog l W) (hl : ("errors.errorType", Rows.laid_errors_errorType) ∈ l) : Et W := by
  obtain ⟨name, u, ty, e1, e2, e3, e4, e5⟩ := h _ hl
  have en : name = [101, 114, 114, 111, 114] := (Option.some.inj e1).symm
  subst en
  obtain rfl := Option.some.inj (rtP.symm.trans e2)
  have hm : ty ∈ (List.range (355 - 100)).filter fun t => Tryz.prog.rowNamed t [101, 114, 114, 111, 114] := List.mem_filter.2 ⟨List.mem_range.2 (by rw [← sizeP]; exact e3), e4⟩
  rw [oneRowP] at hm
  obtain rfl := List.mem_singleton.1 hm
  have hh : typeHandle Tryz.prog 69 = .pointer (some ⟨9, 69, none⟩) := by kernel_rfl
  rw [hh] at e5
  unfold Et
  simpa using World.var?_cell etP e5 0
theorem laid_over {w0 : World} {laid : List (String × DataW Unit)} (args : Array Value) (hf : w0.layFits Tryz.prog laid [] = true) (hi : w0.layIfaces Tryz.prog laid (w0.layVars Tryz.prog laid) = true) :
    laidMet Tryz.prog laid ((w0.layVars Tryz.prog laid).forCall (fun _ _ => 0) ⟨#[], args, []⟩).memory := by
  have e1 : (laid.filter fun x => (laid.map (·.1)).contains x.1) = laid := List.filter_eq_self.2 fun x hx => List.contains_iff_mem.2 (List.mem_map.2 ⟨x, hx, rfl⟩)
  have e2 : (laid.filter fun x => !(laid.map (·.1)).contains x.1) = [] := List.filter_eq_nil_iff.2 fun x hx => by rw [List.contains_iff_mem.2 (List.mem_map.2 ⟨x, hx, rfl⟩)]; simp
  have h : laidMet Tryz.prog laid (w0.layVars Tryz.prog laid) := laidMet_layVars (w0 := w0) (laid.map (·.1)) [] (by rw [e1]) (by rw [e1]; exact hf) (by rw [e1]; exact hi) (by rw [e2]; exact LaidIn.none)
  exact h.of_heap (by simp [World.memory, World.forCall, Input.heap])
def plainQ : List (String × DataW Unit) := [("unicode/utf8.acceptRanges", Rows.laid_unicode_utf8_acceptRanges), ("loop.example/g00608/impl.errTextLong", Rows.laid_loop_example_g00608_impl_errTextLong), ("loop.example/g00608/impl.errTextForm", Rows.laid_loop_example_g00608_impl_errTextForm), ("unicode/utf8.first", Rows.laid_unicode_utf8_first)]
def laidP : List (String × DataW Unit) := [("unicode/utf8.acceptRanges", Rows.laid_unicode_utf8_acceptRanges), ("errors.errorType", Rows.laid_errors_errorType), ("loop.example/g00608/impl.errTextLong", Rows.laid_loop_example_g00608_impl_errTextLong), ("loop.example/g00608/impl.errTextForm", Rows.laid_loop_example_g00608_impl_errTextForm), ("unicode/utf8.first", Rows.laid_unicode_utf8_first)]
noncomputable def worldP (os : Os) : World := (typeWorld os).layVars Tryz.prog plainQ
theorem worldP_os (os : Os) : (worldP os).os = os := World.layVars_os _ _ _
theorem door_metP (os : Os) (args : Array Value) : laidMetH Tryz.prog laidP ((worldP os).forCall (fun _ _ => 0) ⟨#[], args, []⟩).memory :=
  laidMetH_of_parts (laid_over (laid := plainQ) args (by kernel_rfl) (by kernel_rfl)) (by kernel_rfl)
theorem of_laidP {W : World} (h : laidMetH Tryz.prog laidP W) : (∃ a0 a1, Er W a0 a1) ∧ Et W := by
  have h' : laidMet Tryz.prog plainQ W ∧ handlesMet Tryz.prog [("errors.errorType", Rows.laid_errors_errorType)] W := h
  obtain ⟨a1, a0, s1, s0, c1, c0, t1, t0, hv1, hv0, _, _, _, _, _, _, hne, hb1, hb0⟩ := laid_sentinels2 (laidMet.tail h'.1) gLongP tLongP gFormP tFormP Tryz.underlying69 rowEP Tryz.underlying225 Tryz.underlying243 rfl rfl Tryz.underlying9 cellsEP cellsSP
  exact ⟨⟨a0, a1, World.var?_cell gFormP hv0 0, World.var?_cell gLongP hv1 0, hne.symm, ⟨c0, t0, hb0⟩, c1, t1, hb1⟩, et_of_handle h'.2 (List.mem_singleton.2 rfl)⟩
theorem mx_of_shaped {W : World} (h : W.ShapedOpen Tryz.prog) : Mx W := cell_of_shapedOpen_int (zero := #[.int .i64 0]) h (of_decide_eq_true (by kernel_rfl)) (by kernel_rfl) rfl (by kernel_rfl) (by kernel_rfl) Tryz.underlying3
variable {H : Type} {enc : TypeId × Value → H}
/-- The wrap, the listed variables and the world's shape kept. -/
theorem handed_shaped {a : Assume} {C : Checked} {os : Os} {f : FuncId} {fn : Func} {s : ChangeSpec} {conds : List PathCond} {apart fresh handsOn again : Bool} {X : World → Array Value → Prop}
    (hX : ∀ (w w' : World) (args : Array Value), w.heap = w'.heap → X w args → X w' args)
    (own : ownKnob C.prog.godebug = none) (started : os.Started) (noInit : C.prog.inits.idxOf? f = none) (hfn : C.prog.funcs[f]? = some fn)
    (witness : ∃ (w : World) (tape : Tape) (i : Input), w.os = os ∧ (w.forCall tape i).Shaped C.prog ∧ i.vars = [] ∧ Input.okWide C.prog (w.forCall tape i) .any w.heap.size f i ∧
      ((s.pre enc C.prog fn conds apart (w.forCall tape i).memory i.args ∧ X (w.forCall tape i).memory i.args) ∧ sizedMet enc C.prog fn (OpenSpec.ofChange s) apart (w.forCall tape i).memory i.args) ∧ a.holds C.prog (lone (Frame.enter C.prog f i.args .normal) [] (w.forCall tape i)))
    (contract : ∀ (W : World) (base : Nat) (args : Array Value) (ds gs : List (DataW H)) (before : List MemPlace),
      (∀ (j : Nat) t v, fn.params[j]? = some t → args[j]? = some v → Value.okWide C.prog W .any base t v) →
      DataW.Whole enc C.prog fn.params.toList s.vars apart W args.toList ds gs before →
      W.ShapedOpen C.prog → X W args →
      Calls C.prog f args W fun e W' => ∃ v, e = .returned v ∧ s.post enc C.prog fn apart fresh handsOn again W args v W') :
    ReturnsInHanded a C os f .any (fun w args => (s.pre enc C.prog fn conds apart w args ∧ X w args) ∧ sizedMet enc C.prog fn (OpenSpec.ofChange s) apart w args) (s.post enc C.prog fn apart fresh handsOn again) := by
  refine returnsInHanded_of_calls own started noInit witness ?_
  intro w tape i _ hsh _ hok hpre hholds
  obtain ⟨_, _, _, fn', hfn', _, _, _, _, hval⟩ := hok
  have e : fn' = fn := Option.some.inj (hfn'.symm.trans hfn)
  subst e
  obtain ⟨⟨⟨ds, gs, before, hw, hc⟩, hx⟩, hz⟩ := hpre
  have hw' := DataW.Whole.of_heap (w' := w.forCall tape i) (by rfl) hw
  refine (contract (w.forCall tape i) w.heap.size i.args ds gs before hval hw' hsh (hX _ _ _ (by rfl) hx)).mono fun e W' ⟨v, he, hp⟩ => ?_
  subst he
  exact ChangeSpec.post_blind hp
end Go.Proofs.YteckhdkghfidiaaGreatDoor
