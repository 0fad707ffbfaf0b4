/-
  Texts of the proof, put together in their order: Nwl.
  Conditions: those of each.
-/
import Derived.Test.YteckhdkghfidiaaGreatDoorMc17
/- Contract of the model's l04Newest. Conditions: the disk can be read; the slots' texts have at most 65536 bytes. -/
namespace Go.Proofs.YteckhdkghfidiaaGreatDoor
set_option linter.unusedVariables false
set_option maxRecDepth 100000
open Go.RowKit

def RetLN (w : World) (o : Option (U6 × Int)) (e : Ending) (w' : World) : Prop :=
  Nx w w' ∧ (o = none → e = .returned (.tuple #[.agg #[.int .i64 0, .int .i64 0, .int .i64 0, .int .i64 0, .slice none 0 0, .slice none 0 0], .int .i64 (-1)])) ∧ ∀ u s, o = some (u, s) → ∃ A c A2 c2, e = .returned (.tuple #[vU u A c A2 c2, .int .i64 s]) ∧ FitU w' w.heap.size u A c A2
theorem RetLN.no {w w' : World} {o : Option (U6 × Int)} (h : o = none) (hn : Nx w w') : RetLN w o (.returned (.tuple #[.agg #[.int .i64 0, .int .i64 0, .int .i64 0, .int .i64 0, .slice none 0 0, .slice none 0 0], .int .i64 (-1)])) w' :=
  ⟨hn, fun _ => rfl, fun u s h2 => by rw [h] at h2; cases h2⟩
theorem RetLN.yes {w w' : World} {o : Option (U6 × Int)} {u : U6} {s : Int} {A A2 : Option Addr} {c c2 : Nat} (h : o = some (u, s)) (hc : u.2.2.2.2.1.length ≤ c) (hs : SlI w' w.heap.size A u.2.2.2.2.1) (hm : SlM w' w.heap.size A2 u.2.2.2.2.2) (hn : Nx w w') :
    RetLN w o (.returned (.tuple #[vU u A c A2 c2, .int .i64 s])) w' :=
  ⟨hn, (fun h2 => by rw [h] at h2; cases h2), fun u' s' h2 => by rw [h] at h2; cases h2; exact ⟨A, c, A2, c2, rfl, hc, hs, hm⟩⟩
set_option maxHeartbeats 1600000 in
theorem l04Newest_c (A A2 : Option Addr) (n c n2 c2 B : Nat) (ss : List ByteArray) (ws : List (Int × ByteArray)) (w : World) (h : Strs w B A n ss) (h2 : Wrs w B A2 n2 ws) (hB : B ≤ w.heap.size) (ha : 1 < n) (hn : n ≤ 1048576) (hn2 : n2 ≤ 1048576) (hr0 : (readP ss ws 0).size ≤ 65536) (hr1 : (readP ss ws 1).size ≤ 65536) :
    Calls Tryz.prog 45 #[.agg #[.slice A n c, .slice A2 n2 c2]] w (RetLN w (newU (rdU (readP ss ws 0)) (rdU (readP ss ws 1)))) := by
  have b0 : Box ((w.alloc (.cells #[.slice A n c, .slice A2 n2 c2] 35)).alloc (.cells #[.int .i64 0, .int .i64 0, .int .i64 0, .int .i64 0, .slice none 0 0, .slice none 0 0] 26)) (w.heap.size + 1) 26 #[.int .i64 0, .int .i64 0, .int .i64 0, .int .i64 0, .slice none 0 0, .slice none 0 0] := by have := Box.new (w.alloc (.cells #[.slice A n c, .slice A2 n2 c2] 35)) 26 #[.int .i64 0, .int .i64 0, .int .i64 0, .int .i64 0, .slice none 0 0, .slice none 0 0]; rwa [World.size_alloc] at this
  have e0 : Box ((w.alloc (.cells #[.slice A n c, .slice A2 n2 c2] 35)).alloc (.cells #[.int .i64 0, .int .i64 0, .int .i64 0, .int .i64 0, .slice none 0 0, .slice none 0 0] 26)) w.heap.size 35 #[.slice A n c, .slice A2 n2 c2] := (Box.new w _ _).alloc _
  have hx0 := ((Nx.refl w).alloc (.cells #[.slice A n c, .slice A2 n2 c2] 35)).alloc (.cells #[.int .i64 0, .int .i64 0, .int .i64 0, .int .i64 0, .slice none 0 0, .slice none 0 0] 26)
  go_enter Tryz.func45, Tryz.ntmps45
  go_wp2_with fail
  generalize (w.alloc (.cells #[.slice A n c, .slice A2 n2 c2] 35)).alloc (.cells #[.int .i64 0, .int .i64 0, .int .i64 0, .int .i64 0, .slice none 0 0, .slice none 0 0] 26) = W at *
  obtain ⟨gR, Hg⟩ : ∃ g, Hid (w.heap.size + 1 = g) := ⟨_, rfl⟩
  have hgR : w.heap.size ≤ gR := by have := Hg.out; omega
  rw [Hg.out] at b0 ⊢
  have hltW := b0.lt
  have bW := b0
  have eW := e0
  refine (l01Read_c A A2 n c n2 c2 B 0 ss ws _ (h.below hx0 hB) (h2.below hx0 hB) (Nat.le_trans hB hx0.size) (by omega) hn hn2).mono ?_
  rintro e x0w ⟨rfl, hnx0⟩
  have hx0a := hx0.trans hnx0
  go_wp2_with fail
  refine (l04Read_c (readP ss ws 0) _ hr0).mono ?_
  rintro e y0 ⟨hny0, h1, h2'⟩
  have hx0b := hx0a.trans hny0
  have z0 := (eW.nx (hnx0.trans hny0)).c0
  have z1 := (eW.nx (hnx0.trans hny0)).c1
  have hltz := (eW.nx (hnx0.trans hny0)).lt
  clear b0 e0
  cases hu0 : rdU (readP ss ws 0) with
  | none =>
    obtain rfl := h1 hu0
    have HU0 := Lib.hid hu0
    clear h1 h2' hu0
    go_wp2_with fail
    have bA := Box.new y0 26 #[.int .i64 0, .int .i64 0, .int .i64 0, .int .i64 0, .slice none 0 0, .slice none 0 0]
    have hzA := (Nx.refl y0).alloc (.cells #[.int .i64 0, .int .i64 0, .int .i64 0, .int .i64 0, .slice none 0 0, .slice none 0 0] 26)
    have bR := (bW.nx (hnx0.trans hny0)).nx hzA
    have eR := (eW.nx (hnx0.trans hny0)).nx hzA
    have hxA := hx0b.trans hzA
    change Calls _ _ _ (y0.alloc (.cells #[.int .i64 0, .int .i64 0, .int .i64 0, .int .i64 0, .slice none 0 0, .slice none 0 0] 26)) _
    generalize y0.alloc (.cells #[.int .i64 0, .int .i64 0, .int .i64 0, .int .i64 0, .slice none 0 0, .slice none 0 0] 26) = wA at *
    obtain ⟨gA, HgA⟩ : ∃ g, Hid (y0.heap.size = g) := ⟨_, rfl⟩
    rw [HgA.out] at bA ⊢
    have hgA : gR < gA := by have := HgA.out; have := (bW.nx (hnx0.trans hny0)).lt; omega
    refine (l01Read_c A A2 n c n2 c2 B 1 ss ws _ (h.below hxA hB) (h2.below hxA hB) (Nat.le_trans hB hxA.size) (by omega) hn hn2).mono ?_
    rintro e x1w ⟨rfl, hnx1⟩
    have hx1a := hxA.trans hnx1
    go_wp2_with fail
    refine (l04Read_c (readP ss ws 1) _ hr1).mono ?_
    rintro e y1 ⟨hny1, h1, h2'⟩
    have hx1b := hx1a.trans hny1
    cases hu1 : rdU (readP ss ws 1) with
    | none =>
      obtain rfl := h1 hu1
      have HU1 := Lib.hid hu1
      clear h1 h2' hu1
      have bA1 := bA.nx (hnx1.trans hny1)
      have bR1 := bR.nx (hnx1.trans hny1)
      have hxB := hx1b
      have hltx0 : gR < x0w.heap.size := (bW.nx hnx0).lt
      have hltx1 : gR < x1w.heap.size := (bR.nx hnx1).lt
      have hltA1 := bA1.lt
      have hltR1 := bR1.lt
      have hszx := hnx1.size
      have hszy := hxA.size
      obtain ⟨m0, m1, m2, m3, m4, m5⟩ := bA1.d6
      have HN : Hid (newU (rdU (readP ss ws 0)) (rdU (readP ss ws 1)) = none) := Lib.hid (by rw [HU0.out, HU1.out]; rfl)
      obtain ⟨u0, u1, u2, u3, u4, u5⟩ := bR1.d6
      have f0 := bR1.frozen 0
      have f1 := bR1.frozen 1
      have f2 := bR1.frozen 2
      have f3 := bR1.frozen 3
      have f4 := bR1.frozen 4
      have f5 := bR1.frozen 5
      go_wp2
      have qx := ((put6_box bR1 (.int .i64 0) (.int .i64 0) (.int .i64 0) (.int .i64 0) (.slice none 0 0) (.slice none 0 0)).alloc (.cells #[.int .i64 0, .int .i64 0, .int .i64 0, .int .i64 0, .slice none 0 0, .slice none 0 0] 26))
      have hnf := ((put6_nx hxB (hgR) (.int .i64 0) (.int .i64 0) (.int .i64 0) (.int .i64 0) (.slice none 0 0) (.slice none 0 0)).alloc (.cells #[.int .i64 0, .int .i64 0, .int .i64 0, .int .i64 0, .slice none 0 0, .slice none 0 0] 26))
      change bodyPost _ _ _ _ _ (World.alloc (put6 y1 gR (.int .i64 0) (.int .i64 0) (.int .i64 0) (.int .i64 0) (.slice none 0 0) (.slice none 0 0)) (.cells #[.int .i64 0, .int .i64 0, .int .i64 0, .int .i64 0, .slice none 0 0, .slice none 0 0] 26))
      change Box (World.alloc (put6 y1 gR (.int .i64 0) (.int .i64 0) (.int .i64 0) (.int .i64 0) (.slice none 0 0) (.slice none 0 0)) (.cells #[.int .i64 0, .int .i64 0, .int .i64 0, .int .i64 0, .slice none 0 0, .slice none 0 0] 26)) _ _ _ at qx
      generalize World.alloc (put6 y1 gR (.int .i64 0) (.int .i64 0) (.int .i64 0) (.int .i64 0) (.slice none 0 0) (.slice none 0 0)) (.cells #[.int .i64 0, .int .i64 0, .int .i64 0, .int .i64 0, .slice none 0 0, .slice none 0 0] 26) = Wf at *
      obtain ⟨cq0, cq1, cq2, cq3, cq4, cq5⟩ := qx.d6
      exact bodyPost_ret (v := .tuple #[.agg #[.int .i64 0, .int .i64 0, .int .i64 0, .int .i64 0, .slice none 0 0, .slice none 0 0], .int .i64 (-1)]) (by simp [results, Tryz.results45, go_sem, cq0, cq1, cq2, cq3, cq4, cq5]) rfl (RetLN.no HN.out hnf)
    | some u =>
      obtain ⟨g1, b1, p1, q1, xs1, ms1⟩ := u
      obtain ⟨Ax1, cx1, Am1, cm1, he, hcc, hS1, hM1⟩ := h2' _ hu1
      replace he : e = .returned (.tuple #[.agg #[.int .i64 g1, .int .i64 b1, .int .i64 p1, .int .i64 q1, .slice Ax1 xs1.length cx1, .slice Am1 ms1.length cm1], .bool true]) := he
      replace hS1 : SlI y1 x1w.heap.size Ax1 xs1 := hS1
      replace hM1 : SlM y1 x1w.heap.size Am1 ms1 := hM1
      have HCC1 : Hid (xs1.length ≤ cx1) := Lib.hid hcc
      have HU1 := Lib.hid hu1
      subst he
      clear h1 h2' hu1 hcc
      have bA1 := bA.nx (hnx1.trans hny1)
      have bR1 := bR.nx (hnx1.trans hny1)
      have hxB := hx1b
      have hS1B := hS1
      have hM1B := hM1
      have hltx0 : gR < x0w.heap.size := (bW.nx hnx0).lt
      have hltx1 : gR < x1w.heap.size := (bR.nx hnx1).lt
      have hltA1 := bA1.lt
      have hltR1 := bR1.lt
      have hszx := hnx1.size
      have hszy := hxA.size
      obtain ⟨m0, m1, m2, m3, m4, m5⟩ := bA1.d6
      have HN : Hid (newU (rdU (readP ss ws 0)) (rdU (readP ss ws 1)) = some ((g1, b1, p1, q1, xs1, ms1), 1)) := Lib.hid (by rw [HU0.out, HU1.out]; rfl)
      obtain ⟨u0, u1, u2, u3, u4, u5⟩ := bR1.d6
      have f0 := bR1.frozen 0
      have f1 := bR1.frozen 1
      have f2 := bR1.frozen 2
      have f3 := bR1.frozen 3
      have f4 := bR1.frozen 4
      have f5 := bR1.frozen 5
      go_wp2
      have qx := ((put6_box bR1 (.int .i64 g1) (.int .i64 b1) (.int .i64 p1) (.int .i64 q1) (.slice Ax1 xs1.length cx1) (.slice Am1 ms1.length cm1)).alloc (.cells #[.int .i64 g1, .int .i64 b1, .int .i64 p1, .int .i64 q1, .slice Ax1 xs1.length cx1, .slice Am1 ms1.length cm1] 26))
      have hnf := ((put6_nx hxB (hgR) (.int .i64 g1) (.int .i64 b1) (.int .i64 p1) (.int .i64 q1) (.slice Ax1 xs1.length cx1) (.slice Am1 ms1.length cm1)).alloc (.cells #[.int .i64 g1, .int .i64 b1, .int .i64 p1, .int .i64 q1, .slice Ax1 xs1.length cx1, .slice Am1 ms1.length cm1] 26))
      have hsf := ((hS1B.pt6 hltx1 (.int .i64 g1) (.int .i64 b1) (.int .i64 p1) (.int .i64 q1) (.slice Ax1 xs1.length cx1) (.slice Am1 ms1.length cm1)).nx ((Nx.refl _).alloc (.cells #[.int .i64 g1, .int .i64 b1, .int .i64 p1, .int .i64 q1, .slice Ax1 xs1.length cx1, .slice Am1 ms1.length cm1] 26)))
      change Sl (World.alloc (put6 y1 gR (.int .i64 g1) (.int .i64 b1) (.int .i64 p1) (.int .i64 q1) (.slice Ax1 xs1.length cx1) (.slice Am1 ms1.length cm1)) (.cells #[.int .i64 g1, .int .i64 b1, .int .i64 p1, .int .i64 q1, .slice Ax1 xs1.length cx1, .slice Am1 ms1.length cm1] 26)) _ _ _ _ _ at hsf
      have hmf := ((hM1B.pt6 hltx1 (.int .i64 g1) (.int .i64 b1) (.int .i64 p1) (.int .i64 q1) (.slice Ax1 xs1.length cx1) (.slice Am1 ms1.length cm1)).nx ((Nx.refl _).alloc (.cells #[.int .i64 g1, .int .i64 b1, .int .i64 p1, .int .i64 q1, .slice Ax1 xs1.length cx1, .slice Am1 ms1.length cm1] 26)))
      change Sl (World.alloc (put6 y1 gR (.int .i64 g1) (.int .i64 b1) (.int .i64 p1) (.int .i64 q1) (.slice Ax1 xs1.length cx1) (.slice Am1 ms1.length cm1)) (.cells #[.int .i64 g1, .int .i64 b1, .int .i64 p1, .int .i64 q1, .slice Ax1 xs1.length cx1, .slice Am1 ms1.length cm1] 26)) _ _ _ _ _ at hmf
      change bodyPost _ _ _ _ _ (World.alloc (put6 y1 gR (.int .i64 g1) (.int .i64 b1) (.int .i64 p1) (.int .i64 q1) (.slice Ax1 xs1.length cx1) (.slice Am1 ms1.length cm1)) (.cells #[.int .i64 g1, .int .i64 b1, .int .i64 p1, .int .i64 q1, .slice Ax1 xs1.length cx1, .slice Am1 ms1.length cm1] 26))
      change Box (World.alloc (put6 y1 gR (.int .i64 g1) (.int .i64 b1) (.int .i64 p1) (.int .i64 q1) (.slice Ax1 xs1.length cx1) (.slice Am1 ms1.length cm1)) (.cells #[.int .i64 g1, .int .i64 b1, .int .i64 p1, .int .i64 q1, .slice Ax1 xs1.length cx1, .slice Am1 ms1.length cm1] 26)) _ _ _ at qx
      generalize World.alloc (put6 y1 gR (.int .i64 g1) (.int .i64 b1) (.int .i64 p1) (.int .i64 q1) (.slice Ax1 xs1.length cx1) (.slice Am1 ms1.length cm1)) (.cells #[.int .i64 g1, .int .i64 b1, .int .i64 p1, .int .i64 q1, .slice Ax1 xs1.length cx1, .slice Am1 ms1.length cm1] 26) = Wf at *
      obtain ⟨hmf0, hmf1, hmf2, hmf3, hmf4, hmf5⟩ := qx.d6
      exact bodyPost_ret (v := .tuple #[.agg #[.int .i64 g1, .int .i64 b1, .int .i64 p1, .int .i64 q1, .slice Ax1 xs1.length cx1, .slice Am1 ms1.length cm1], .int .i64 1]) (by simp [results, Tryz.results45, go_sem, hmf0, hmf1, hmf2, hmf3, hmf4, hmf5]) rfl (RetLN.yes (u := (g1, b1, p1, q1, xs1, ms1)) HN.out HCC1.out (hsf.low (by omega)) (hmf.low (by omega)) hnf)
  | some u =>
    obtain ⟨g0, b0, p0, q0, xs0, ms0⟩ := u
    obtain ⟨Ax0, cx0, Am0, cm0, he, hcc, hS0, hM0⟩ := h2' _ hu0
    replace he : e = .returned (.tuple #[.agg #[.int .i64 g0, .int .i64 b0, .int .i64 p0, .int .i64 q0, .slice Ax0 xs0.length cx0, .slice Am0 ms0.length cm0], .bool true]) := he
    replace hS0 : SlI y0 x0w.heap.size Ax0 xs0 := hS0
    replace hM0 : SlM y0 x0w.heap.size Am0 ms0 := hM0
    have HCC0 : Hid (xs0.length ≤ cx0) := Lib.hid hcc
    have HU0 := Lib.hid hu0
    subst he
    clear h1 h2' hu0 hcc
    go_wp2_with fail
    have bA := Box.new y0 26 #[.int .i64 g0, .int .i64 b0, .int .i64 p0, .int .i64 q0, .slice Ax0 xs0.length cx0, .slice Am0 ms0.length cm0]
    have hzA := (Nx.refl y0).alloc (.cells #[.int .i64 g0, .int .i64 b0, .int .i64 p0, .int .i64 q0, .slice Ax0 xs0.length cx0, .slice Am0 ms0.length cm0] 26)
    have bR := (bW.nx (hnx0.trans hny0)).nx hzA
    have eR := (eW.nx (hnx0.trans hny0)).nx hzA
    have hxA := hx0b.trans hzA
    have hS0A := hS0.nx hzA
    have hM0A := hM0.nx hzA
    change Calls _ _ _ (y0.alloc (.cells #[.int .i64 g0, .int .i64 b0, .int .i64 p0, .int .i64 q0, .slice Ax0 xs0.length cx0, .slice Am0 ms0.length cm0] 26)) _
    generalize y0.alloc (.cells #[.int .i64 g0, .int .i64 b0, .int .i64 p0, .int .i64 q0, .slice Ax0 xs0.length cx0, .slice Am0 ms0.length cm0] 26) = wA at *
    obtain ⟨gA, HgA⟩ : ∃ g, Hid (y0.heap.size = g) := ⟨_, rfl⟩
    rw [HgA.out] at bA ⊢
    have hgA : gR < gA := by have := HgA.out; have := (bW.nx (hnx0.trans hny0)).lt; omega
    refine (l01Read_c A A2 n c n2 c2 B 1 ss ws _ (h.below hxA hB) (h2.below hxA hB) (Nat.le_trans hB hxA.size) (by omega) hn hn2).mono ?_
    rintro e x1w ⟨rfl, hnx1⟩
    have hx1a := hxA.trans hnx1
    go_wp2_with fail
    refine (l04Read_c (readP ss ws 1) _ hr1).mono ?_
    rintro e y1 ⟨hny1, h1, h2'⟩
    have hx1b := hx1a.trans hny1
    cases hu1 : rdU (readP ss ws 1) with
    | none =>
      obtain rfl := h1 hu1
      have HU1 := Lib.hid hu1
      clear h1 h2' hu1
      have bA1 := bA.nx (hnx1.trans hny1)
      have bR1 := bR.nx (hnx1.trans hny1)
      have hxB := hx1b
      have hS0B := hS0A.nx (hnx1.trans hny1)
      have hM0B := hM0A.nx (hnx1.trans hny1)
      have hltx0 : gR < x0w.heap.size := (bW.nx hnx0).lt
      have hltx1 : gR < x1w.heap.size := (bR.nx hnx1).lt
      have hltA1 := bA1.lt
      have hltR1 := bR1.lt
      have hszx := hnx1.size
      have hszy := hxA.size
      obtain ⟨m0, m1, m2, m3, m4, m5⟩ := bA1.d6
      have HN : Hid (newU (rdU (readP ss ws 0)) (rdU (readP ss ws 1)) = some ((g0, b0, p0, q0, xs0, ms0), 0)) := Lib.hid (by rw [HU0.out, HU1.out]; rfl)
      obtain ⟨u0, u1, u2, u3, u4, u5⟩ := bR1.d6
      have f0 := bR1.frozen 0
      have f1 := bR1.frozen 1
      have f2 := bR1.frozen 2
      have f3 := bR1.frozen 3
      have f4 := bR1.frozen 4
      have f5 := bR1.frozen 5
      go_wp2
      have qx := ((put6_box bR1 (.int .i64 g0) (.int .i64 b0) (.int .i64 p0) (.int .i64 q0) (.slice Ax0 xs0.length cx0) (.slice Am0 ms0.length cm0)).alloc (.cells #[.int .i64 0, .int .i64 0, .int .i64 0, .int .i64 0, .slice none 0 0, .slice none 0 0] 26))
      have hnf := ((put6_nx hxB (hgR) (.int .i64 g0) (.int .i64 b0) (.int .i64 p0) (.int .i64 q0) (.slice Ax0 xs0.length cx0) (.slice Am0 ms0.length cm0)).alloc (.cells #[.int .i64 0, .int .i64 0, .int .i64 0, .int .i64 0, .slice none 0 0, .slice none 0 0] 26))
      have hsf := ((hS0B.pt6 hltx0 (.int .i64 g0) (.int .i64 b0) (.int .i64 p0) (.int .i64 q0) (.slice Ax0 xs0.length cx0) (.slice Am0 ms0.length cm0)).nx ((Nx.refl _).alloc (.cells #[.int .i64 0, .int .i64 0, .int .i64 0, .int .i64 0, .slice none 0 0, .slice none 0 0] 26)))
      change Sl (World.alloc (put6 y1 gR (.int .i64 g0) (.int .i64 b0) (.int .i64 p0) (.int .i64 q0) (.slice Ax0 xs0.length cx0) (.slice Am0 ms0.length cm0)) (.cells #[.int .i64 0, .int .i64 0, .int .i64 0, .int .i64 0, .slice none 0 0, .slice none 0 0] 26)) _ _ _ _ _ at hsf
      have hmf := ((hM0B.pt6 hltx0 (.int .i64 g0) (.int .i64 b0) (.int .i64 p0) (.int .i64 q0) (.slice Ax0 xs0.length cx0) (.slice Am0 ms0.length cm0)).nx ((Nx.refl _).alloc (.cells #[.int .i64 0, .int .i64 0, .int .i64 0, .int .i64 0, .slice none 0 0, .slice none 0 0] 26)))
      change Sl (World.alloc (put6 y1 gR (.int .i64 g0) (.int .i64 b0) (.int .i64 p0) (.int .i64 q0) (.slice Ax0 xs0.length cx0) (.slice Am0 ms0.length cm0)) (.cells #[.int .i64 0, .int .i64 0, .int .i64 0, .int .i64 0, .slice none 0 0, .slice none 0 0] 26)) _ _ _ _ _ at hmf
      change bodyPost _ _ _ _ _ (World.alloc (put6 y1 gR (.int .i64 g0) (.int .i64 b0) (.int .i64 p0) (.int .i64 q0) (.slice Ax0 xs0.length cx0) (.slice Am0 ms0.length cm0)) (.cells #[.int .i64 0, .int .i64 0, .int .i64 0, .int .i64 0, .slice none 0 0, .slice none 0 0] 26))
      change Box (World.alloc (put6 y1 gR (.int .i64 g0) (.int .i64 b0) (.int .i64 p0) (.int .i64 q0) (.slice Ax0 xs0.length cx0) (.slice Am0 ms0.length cm0)) (.cells #[.int .i64 0, .int .i64 0, .int .i64 0, .int .i64 0, .slice none 0 0, .slice none 0 0] 26)) _ _ _ at qx
      generalize World.alloc (put6 y1 gR (.int .i64 g0) (.int .i64 b0) (.int .i64 p0) (.int .i64 q0) (.slice Ax0 xs0.length cx0) (.slice Am0 ms0.length cm0)) (.cells #[.int .i64 0, .int .i64 0, .int .i64 0, .int .i64 0, .slice none 0 0, .slice none 0 0] 26) = Wf at *
      obtain ⟨hmf0, hmf1, hmf2, hmf3, hmf4, hmf5⟩ := qx.d6
      exact bodyPost_ret (v := .tuple #[.agg #[.int .i64 g0, .int .i64 b0, .int .i64 p0, .int .i64 q0, .slice Ax0 xs0.length cx0, .slice Am0 ms0.length cm0], .int .i64 0]) (by simp [results, Tryz.results45, go_sem, hmf0, hmf1, hmf2, hmf3, hmf4, hmf5]) rfl (RetLN.yes (u := (g0, b0, p0, q0, xs0, ms0)) HN.out HCC0.out (hsf.low (by omega)) (hmf.low (by omega)) hnf)
    | some u =>
      obtain ⟨g1, b1, p1, q1, xs1, ms1⟩ := u
      obtain ⟨Ax1, cx1, Am1, cm1, he, hcc, hS1, hM1⟩ := h2' _ hu1
      replace he : e = .returned (.tuple #[.agg #[.int .i64 g1, .int .i64 b1, .int .i64 p1, .int .i64 q1, .slice Ax1 xs1.length cx1, .slice Am1 ms1.length cm1], .bool true]) := he
      replace hS1 : SlI y1 x1w.heap.size Ax1 xs1 := hS1
      replace hM1 : SlM y1 x1w.heap.size Am1 ms1 := hM1
      have HCC1 : Hid (xs1.length ≤ cx1) := Lib.hid hcc
      have HU1 := Lib.hid hu1
      subst he
      clear h1 h2' hu1 hcc
      have bA1 := bA.nx (hnx1.trans hny1)
      have bR1 := bR.nx (hnx1.trans hny1)
      have hxB := hx1b
      have hS0B := hS0A.nx (hnx1.trans hny1)
      have hM0B := hM0A.nx (hnx1.trans hny1)
      have hS1B := hS1
      have hM1B := hM1
      have hltx0 : gR < x0w.heap.size := (bW.nx hnx0).lt
      have hltx1 : gR < x1w.heap.size := (bR.nx hnx1).lt
      have hltA1 := bA1.lt
      have hltR1 := bR1.lt
      have hszx := hnx1.size
      have hszy := hxA.size
      obtain ⟨m0, m1, m2, m3, m4, m5⟩ := bA1.d6
      by_cases hgt : g0 < g1
      · have hd : decide (g1 ≤ g0) = false := decide_eq_false (by omega)
        have HN : Hid (newU (rdU (readP ss ws 0)) (rdU (readP ss ws 1)) = some ((g1, b1, p1, q1, xs1, ms1), 1)) := Lib.hid (by rw [HU0.out, HU1.out]; show (if g0 < g1 then _ else _) = _; rw [if_pos hgt])
        obtain ⟨u0, u1, u2, u3, u4, u5⟩ := bR1.d6
        have f0 := bR1.frozen 0
        have f1 := bR1.frozen 1
        have f2 := bR1.frozen 2
        have f3 := bR1.frozen 3
        have f4 := bR1.frozen 4
        have f5 := bR1.frozen 5
        go_wp2
        have qx := ((put6_box bR1 (.int .i64 g1) (.int .i64 b1) (.int .i64 p1) (.int .i64 q1) (.slice Ax1 xs1.length cx1) (.slice Am1 ms1.length cm1)).alloc (.cells #[.int .i64 g1, .int .i64 b1, .int .i64 p1, .int .i64 q1, .slice Ax1 xs1.length cx1, .slice Am1 ms1.length cm1] 26))
        have hnf := ((put6_nx hxB (hgR) (.int .i64 g1) (.int .i64 b1) (.int .i64 p1) (.int .i64 q1) (.slice Ax1 xs1.length cx1) (.slice Am1 ms1.length cm1)).alloc (.cells #[.int .i64 g1, .int .i64 b1, .int .i64 p1, .int .i64 q1, .slice Ax1 xs1.length cx1, .slice Am1 ms1.length cm1] 26))
        have hsf := ((hS1B.pt6 hltx1 (.int .i64 g1) (.int .i64 b1) (.int .i64 p1) (.int .i64 q1) (.slice Ax1 xs1.length cx1) (.slice Am1 ms1.length cm1)).nx ((Nx.refl _).alloc (.cells #[.int .i64 g1, .int .i64 b1, .int .i64 p1, .int .i64 q1, .slice Ax1 xs1.length cx1, .slice Am1 ms1.length cm1] 26)))
        change Sl (World.alloc (put6 y1 gR (.int .i64 g1) (.int .i64 b1) (.int .i64 p1) (.int .i64 q1) (.slice Ax1 xs1.length cx1) (.slice Am1 ms1.length cm1)) (.cells #[.int .i64 g1, .int .i64 b1, .int .i64 p1, .int .i64 q1, .slice Ax1 xs1.length cx1, .slice Am1 ms1.length cm1] 26)) _ _ _ _ _ at hsf
        have hmf := ((hM1B.pt6 hltx1 (.int .i64 g1) (.int .i64 b1) (.int .i64 p1) (.int .i64 q1) (.slice Ax1 xs1.length cx1) (.slice Am1 ms1.length cm1)).nx ((Nx.refl _).alloc (.cells #[.int .i64 g1, .int .i64 b1, .int .i64 p1, .int .i64 q1, .slice Ax1 xs1.length cx1, .slice Am1 ms1.length cm1] 26)))
        change Sl (World.alloc (put6 y1 gR (.int .i64 g1) (.int .i64 b1) (.int .i64 p1) (.int .i64 q1) (.slice Ax1 xs1.length cx1) (.slice Am1 ms1.length cm1)) (.cells #[.int .i64 g1, .int .i64 b1, .int .i64 p1, .int .i64 q1, .slice Ax1 xs1.length cx1, .slice Am1 ms1.length cm1] 26)) _ _ _ _ _ at hmf
        change bodyPost _ _ _ _ _ (World.alloc (put6 y1 gR (.int .i64 g1) (.int .i64 b1) (.int .i64 p1) (.int .i64 q1) (.slice Ax1 xs1.length cx1) (.slice Am1 ms1.length cm1)) (.cells #[.int .i64 g1, .int .i64 b1, .int .i64 p1, .int .i64 q1, .slice Ax1 xs1.length cx1, .slice Am1 ms1.length cm1] 26))
        change Box (World.alloc (put6 y1 gR (.int .i64 g1) (.int .i64 b1) (.int .i64 p1) (.int .i64 q1) (.slice Ax1 xs1.length cx1) (.slice Am1 ms1.length cm1)) (.cells #[.int .i64 g1, .int .i64 b1, .int .i64 p1, .int .i64 q1, .slice Ax1 xs1.length cx1, .slice Am1 ms1.length cm1] 26)) _ _ _ at qx
        generalize World.alloc (put6 y1 gR (.int .i64 g1) (.int .i64 b1) (.int .i64 p1) (.int .i64 q1) (.slice Ax1 xs1.length cx1) (.slice Am1 ms1.length cm1)) (.cells #[.int .i64 g1, .int .i64 b1, .int .i64 p1, .int .i64 q1, .slice Ax1 xs1.length cx1, .slice Am1 ms1.length cm1] 26) = Wf at *
        obtain ⟨hmf0, hmf1, hmf2, hmf3, hmf4, hmf5⟩ := qx.d6
        exact bodyPost_ret (v := .tuple #[.agg #[.int .i64 g1, .int .i64 b1, .int .i64 p1, .int .i64 q1, .slice Ax1 xs1.length cx1, .slice Am1 ms1.length cm1], .int .i64 1]) (by simp [results, Tryz.results45, go_sem, hmf0, hmf1, hmf2, hmf3, hmf4, hmf5]) rfl (RetLN.yes (u := (g1, b1, p1, q1, xs1, ms1)) HN.out HCC1.out (hsf.low (by omega)) (hmf.low (by omega)) hnf)
      · have hd : decide (g1 ≤ g0) = true := decide_eq_true (by omega)
        have HN : Hid (newU (rdU (readP ss ws 0)) (rdU (readP ss ws 1)) = some ((g0, b0, p0, q0, xs0, ms0), 0)) := Lib.hid (by rw [HU0.out, HU1.out]; show (if g0 < g1 then _ else _) = _; rw [if_neg hgt])
        obtain ⟨u0, u1, u2, u3, u4, u5⟩ := bR1.d6
        have f0 := bR1.frozen 0
        have f1 := bR1.frozen 1
        have f2 := bR1.frozen 2
        have f3 := bR1.frozen 3
        have f4 := bR1.frozen 4
        have f5 := bR1.frozen 5
        go_wp2
        have qx := ((put6_box bR1 (.int .i64 g0) (.int .i64 b0) (.int .i64 p0) (.int .i64 q0) (.slice Ax0 xs0.length cx0) (.slice Am0 ms0.length cm0)).alloc (.cells #[.int .i64 g1, .int .i64 b1, .int .i64 p1, .int .i64 q1, .slice Ax1 xs1.length cx1, .slice Am1 ms1.length cm1] 26))
        have hnf := ((put6_nx hxB (hgR) (.int .i64 g0) (.int .i64 b0) (.int .i64 p0) (.int .i64 q0) (.slice Ax0 xs0.length cx0) (.slice Am0 ms0.length cm0)).alloc (.cells #[.int .i64 g1, .int .i64 b1, .int .i64 p1, .int .i64 q1, .slice Ax1 xs1.length cx1, .slice Am1 ms1.length cm1] 26))
        have hsf := ((hS0B.pt6 hltx0 (.int .i64 g0) (.int .i64 b0) (.int .i64 p0) (.int .i64 q0) (.slice Ax0 xs0.length cx0) (.slice Am0 ms0.length cm0)).nx ((Nx.refl _).alloc (.cells #[.int .i64 g1, .int .i64 b1, .int .i64 p1, .int .i64 q1, .slice Ax1 xs1.length cx1, .slice Am1 ms1.length cm1] 26)))
        change Sl (World.alloc (put6 y1 gR (.int .i64 g0) (.int .i64 b0) (.int .i64 p0) (.int .i64 q0) (.slice Ax0 xs0.length cx0) (.slice Am0 ms0.length cm0)) (.cells #[.int .i64 g1, .int .i64 b1, .int .i64 p1, .int .i64 q1, .slice Ax1 xs1.length cx1, .slice Am1 ms1.length cm1] 26)) _ _ _ _ _ at hsf
        have hmf := ((hM0B.pt6 hltx0 (.int .i64 g0) (.int .i64 b0) (.int .i64 p0) (.int .i64 q0) (.slice Ax0 xs0.length cx0) (.slice Am0 ms0.length cm0)).nx ((Nx.refl _).alloc (.cells #[.int .i64 g1, .int .i64 b1, .int .i64 p1, .int .i64 q1, .slice Ax1 xs1.length cx1, .slice Am1 ms1.length cm1] 26)))
        change Sl (World.alloc (put6 y1 gR (.int .i64 g0) (.int .i64 b0) (.int .i64 p0) (.int .i64 q0) (.slice Ax0 xs0.length cx0) (.slice Am0 ms0.length cm0)) (.cells #[.int .i64 g1, .int .i64 b1, .int .i64 p1, .int .i64 q1, .slice Ax1 xs1.length cx1, .slice Am1 ms1.length cm1] 26)) _ _ _ _ _ at hmf
        change bodyPost _ _ _ _ _ (World.alloc (put6 y1 gR (.int .i64 g0) (.int .i64 b0) (.int .i64 p0) (.int .i64 q0) (.slice Ax0 xs0.length cx0) (.slice Am0 ms0.length cm0)) (.cells #[.int .i64 g1, .int .i64 b1, .int .i64 p1, .int .i64 q1, .slice Ax1 xs1.length cx1, .slice Am1 ms1.length cm1] 26))
        change Box (World.alloc (put6 y1 gR (.int .i64 g0) (.int .i64 b0) (.int .i64 p0) (.int .i64 q0) (.slice Ax0 xs0.length cx0) (.slice Am0 ms0.length cm0)) (.cells #[.int .i64 g1, .int .i64 b1, .int .i64 p1, .int .i64 q1, .slice Ax1 xs1.length cx1, .slice Am1 ms1.length cm1] 26)) _ _ _ at qx
        generalize World.alloc (put6 y1 gR (.int .i64 g0) (.int .i64 b0) (.int .i64 p0) (.int .i64 q0) (.slice Ax0 xs0.length cx0) (.slice Am0 ms0.length cm0)) (.cells #[.int .i64 g1, .int .i64 b1, .int .i64 p1, .int .i64 q1, .slice Ax1 xs1.length cx1, .slice Am1 ms1.length cm1] 26) = Wf at *
        obtain ⟨hmf0, hmf1, hmf2, hmf3, hmf4, hmf5⟩ := qx.d6
        exact bodyPost_ret (v := .tuple #[.agg #[.int .i64 g0, .int .i64 b0, .int .i64 p0, .int .i64 q0, .slice Ax0 xs0.length cx0, .slice Am0 ms0.length cm0], .int .i64 0]) (by simp [results, Tryz.results45, go_sem, hmf0, hmf1, hmf2, hmf3, hmf4, hmf5]) rfl (RetLN.yes (u := (g0, b0, p0, q0, xs0, ms0)) HN.out HCC0.out (hsf.low (by omega)) (hmf.low (by omega)) hnf)
end Go.Proofs.YteckhdkghfidiaaGreatDoor
