/-
  Texts of the proof, put together in their order: Nwn, Nwl, Nwx, Sgx, Sgo.
  Conditions: those of each.
-/
import Derived.Test.YtehahodomfbpjaaGreatDoorMm11
import Derived.Deep.AppendLies
/- Contract of the program's newestSuper. Conditions: those of superIn, of both slots; the library's errorType is the type of errors. -/
namespace Go.Proofs.YtehahodomfbpjaaGreatDoor
set_option linter.unusedVariables false
set_option maxRecDepth 100000
open Go.RowKit

/-- The newest of two supers, and its slot. -/
def newU : Option U6 → Option U6 → Option (U6 × Int)
  | some a, some b => if a.1 < b.1 then some (b, 1) else some (a, 0)
  | some a, none => some (a, 0)
  | none, some b => some (b, 1)
  | none, none => none
def RetNS (w : World) (o : Option (U6 × Int)) (e : Ending) (w' : World) : Prop :=
  Nx w w' ∧ (o = none → e = .returned (.tuple #[.agg #[.int .i64 0, .int .i64 0, .int .i64 0, .int .i64 0, .slice none 0 0, .slice none 0 0], .int .i64 1, slE 1 19])) ∧ ∀ u s, o = some (u, s) → ∃ A c A2 c2, e = .returned (.tuple #[vU u A c A2 c2, .int .i64 s, .nilIface]) ∧ FitU w' w.heap.size u A c A2
theorem RetNS.no {w w' : World} {o : Option (U6 × Int)} (h : o = none) (hn : Nx w w') : RetNS w o (.returned (.tuple #[.agg #[.int .i64 0, .int .i64 0, .int .i64 0, .int .i64 0, .slice none 0 0, .slice none 0 0], .int .i64 1, slE 1 19])) w' :=
  ⟨hn, fun _ => rfl, fun u s h2 => by rw [h] at h2; cases h2⟩
theorem RetNS.yes {w w' : World} {o : Option (U6 × Int)} {u : U6} {s : Int} {A A2 : Option Addr} {c c2 : Nat} (h : o = some (u, s)) (hc : u.2.2.2.2.1.length ≤ c) (hs : SlI w' w.heap.size A u.2.2.2.2.1) (hm : SlM w' w.heap.size A2 u.2.2.2.2.2) (hn : Nx w w') :
    RetNS w o (.returned (.tuple #[vU u A c A2 c2, .int .i64 s, .nilIface])) w' :=
  ⟨hn, (fun h2 => by rw [h] at h2; cases h2), fun u' s' h2 => by rw [h] at h2; cases h2; exact ⟨A, c, A2, c2, rfl, hc, hs, hm⟩⟩
theorem otherSlot_c (a : Int) (w : World) (h0 : 0 ≤ a) (h1 : a ≤ 1) : Calls Tryz.prog 203 #[.int .i64 a] w fun e w' => e = .returned (.int .i64 (1 - a)) ∧ w = w' := by
  go_enter Tryz.func203, Tryz.ntmps203
  go_wp2
  go_ret
  exact ⟨rfl, rfl⟩
set_option maxHeartbeats 1600000 in
theorem newestSuper_c (A A2 : Option Addr) (n c n2 c2 B : Nat) (ss : List ByteArray) (ws : List (Int × ByteArray)) (w : World) (a0 a1 : Addr) (h : Strs w B A n ss) (h2 : Wrs w B A2 n2 ws) (hB : B ≤ w.heap.size) (ha : 1 < n) (hn : n ≤ 1048576) (hn2 : n2 ≤ 1048576) (hr0 : (readP ss ws 0).size ≤ 65536) (hr1 : (readP ss ws 1).size ≤ 65536) (hE : Er w a0 a1) (hM : Mx w) (hEt : Et w) :
    Calls Tryz.prog 116 #[.agg #[.slice A n c, .slice A2 n2 c2]] w (RetNS w (newU (rdU (readP ss ws 0)) (rdU (readP ss ws 1)))) := by
  have b0 : Box ((w.alloc (.cells #[.slice A n c, .slice A2 n2 c2] 38)).alloc (.cells #[.int .i64 0, .int .i64 0, .int .i64 0, .int .i64 0, .slice none 0 0, .slice none 0 0] 30)) (w.heap.size + 1) 30 #[.int .i64 0, .int .i64 0, .int .i64 0, .int .i64 0, .slice none 0 0, .slice none 0 0] := by have := Box.new (w.alloc (.cells #[.slice A n c, .slice A2 n2 c2] 38)) 30 #[.int .i64 0, .int .i64 0, .int .i64 0, .int .i64 0, .slice none 0 0, .slice none 0 0]; rwa [World.size_alloc] at this
  have e0 : Box ((w.alloc (.cells #[.slice A n c, .slice A2 n2 c2] 38)).alloc (.cells #[.int .i64 0, .int .i64 0, .int .i64 0, .int .i64 0, .slice none 0 0, .slice none 0 0] 30)) w.heap.size 38 #[.slice A n c, .slice A2 n2 c2] := (Box.new w _ _).alloc _
  have hx0 := ((Nx.refl w).alloc (.cells #[.slice A n c, .slice A2 n2 c2] 38)).alloc (.cells #[.int .i64 0, .int .i64 0, .int .i64 0, .int .i64 0, .slice none 0 0, .slice none 0 0] 30)
  go_enter Tryz.func116, Tryz.ntmps116
  go_wp2_with fail
  generalize (w.alloc (.cells #[.slice A n c, .slice A2 n2 c2] 38)).alloc (.cells #[.int .i64 0, .int .i64 0, .int .i64 0, .int .i64 0, .slice none 0 0, .slice none 0 0] 30) = W at *
  obtain ⟨gR, Hg⟩ : ∃ g, Hid (w.heap.size + 1 = g) := ⟨_, rfl⟩
  have hgR : w.heap.size ≤ gR := by have := Hg.out; omega
  rw [Hg.out] at b0 ⊢
  have hltW := b0.lt
  refine (bothSupers_c A A2 n c n2 c2 B ss ws _ a0 a1 (h.below hx0 hB) (h2.below hx0 hB) (Nat.le_trans hB hx0.size) ha hn hn2 hr0 hr1 (hE.nx hx0) (hM.nx hx0)).mono ?_
  rintro e w1 ⟨hnx1, h1, h2', h3'⟩
  have b1 := b0.nx hnx1
  have e1 := e0.nx hnx1
  have hx1 := hx0.trans hnx1
  have hlt1 := b1.lt
  have hltD := e1.lt
  clear b0 e0 hx0 hnx1
  unfold slE at h1 h2'
  cases hu : rdU (readP ss ws 0) with
  | none =>
    obtain rfl := h1 hu
    have HU0 := Lib.hid hu
    clear h1 h2' h3' hu
    go_wp2_with fail
    have bE := Box.new ((w1.alloc (.cells #[.int .i64 0, .int .i64 0, .int .i64 0, .int .i64 0, .slice none 0 0, .slice none 0 0] 30)).alloc (.cells #[.int .i64 0, .int .i64 0, .int .i64 0, .int .i64 0, .slice none 0 0, .slice none 0 0] 30)) 217 #[.int .i64 0, .int .i64 0]
    have hx3 := (((hx1.alloc (.cells #[.int .i64 0, .int .i64 0, .int .i64 0, .int .i64 0, .slice none 0 0, .slice none 0 0] 30)).alloc (.cells #[.int .i64 0, .int .i64 0, .int .i64 0, .int .i64 0, .slice none 0 0, .slice none 0 0] 30)).alloc (.cells #[.int .i64 0, .int .i64 0] 217))
    have b3 := (((b1.alloc (.cells #[.int .i64 0, .int .i64 0, .int .i64 0, .int .i64 0, .slice none 0 0, .slice none 0 0] 30)).alloc (.cells #[.int .i64 0, .int .i64 0, .int .i64 0, .int .i64 0, .slice none 0 0, .slice none 0 0] 30)).alloc (.cells #[.int .i64 0, .int .i64 0] 217))
    have e3 := (((e1.alloc (.cells #[.int .i64 0, .int .i64 0, .int .i64 0, .int .i64 0, .slice none 0 0, .slice none 0 0] 30)).alloc (.cells #[.int .i64 0, .int .i64 0, .int .i64 0, .int .i64 0, .slice none 0 0, .slice none 0 0] 30)).alloc (.cells #[.int .i64 0, .int .i64 0] 217))
    simp only [World.size_alloc] at bE
    change Calls _ _ _ (((w1.alloc (.cells #[.int .i64 0, .int .i64 0, .int .i64 0, .int .i64 0, .slice none 0 0, .slice none 0 0] 30)).alloc (.cells #[.int .i64 0, .int .i64 0, .int .i64 0, .int .i64 0, .slice none 0 0, .slice none 0 0] 30)).alloc (.cells #[.int .i64 0, .int .i64 0] 217)) _
    generalize (((w1.alloc (.cells #[.int .i64 0, .int .i64 0, .int .i64 0, .int .i64 0, .slice none 0 0, .slice none 0 0] 30)).alloc (.cells #[.int .i64 0, .int .i64 0, .int .i64 0, .int .i64 0, .slice none 0 0, .slice none 0 0] 30)).alloc (.cells #[.int .i64 0, .int .i64 0] 217)) = w3 at *
    obtain ⟨gE, HgE⟩ : ∃ g, Hid (w1.heap.size + 1 + 1 = g) := ⟨_, rfl⟩
    rw [HgE.out] at bE ⊢
    have hgE : gR < gE := by have := HgE.out; omega
    have hgE2 : w.heap.size < gE := by omega
    refine (as_hit 0 19 gE _ _ _ (hEt.nx hx3) bE).mono ?_
    rintro e w4 ⟨rfl, hrg, bF⟩
    have b4 := b3.rg hrg (.inl hgE)
    have e4 := e3.rg hrg (.inl hgE2)
    have hx4 := Rg.nx_of hx3 hrg (by omega)
    have y0 := bF.c0
    have z0 := e4.c0
    have z1 := e4.c1
    clear b3 e3 hx3 bE
    go_wp2_with (go_at_call 203; refine (otherSlot_c 0 _ (by omega) (by omega)).mono ?_; rintro e w' ⟨rfl, rfl⟩)
    refine (superIn_c A A2 n c n2 c2 B 1 ss ws _ a0 a1 (h.below hx4 hB) (h2.below hx4 hB) (Nat.le_trans hB hx4.size) (by omega) hn hn2 hr1 (hE.nx hx4) (hM.nx hx4)).mono ?_
    rintro e w5 ⟨hnx5, h1, h2'⟩
    have b5 := b4.nx hnx5
    have hx5 := hx4.trans hnx5
    have hlt5 := b5.lt
    have hlt4 := b4.lt
    clear b4 e4 hx4 bF y0 z0 z1
    cases hv : rdU (readP ss ws 1) with
    | none =>
      obtain rfl := h1 hv
      have HN : Hid (newU (rdU (readP ss ws 0)) (rdU (readP ss ws 1)) = none) := Lib.hid (by rw [HU0.out, hv]; rfl)
      clear h1 h2' hv
      obtain ⟨u0, u1, u2, u3, u4, u5⟩ := b5.d6
      have f0 := b5.frozen 0
      have f1 := b5.frozen 1
      have f2 := b5.frozen 2
      have f3 := b5.frozen 3
      have f4 := b5.frozen 4
      have f5 := b5.frozen 5
      go_wp2
      have qx := ((put6_box b5 (.int .i64 0) (.int .i64 0) (.int .i64 0) (.int .i64 0) (.slice none 0 0) (.slice none 0 0)).alloc (.cells #[.int .i64 0, .int .i64 0, .int .i64 0, .int .i64 0, .slice none 0 0, .slice none 0 0] 30))
      have hnf := ((put6_nx hx5 (hgR) (.int .i64 0) (.int .i64 0) (.int .i64 0) (.int .i64 0) (.slice none 0 0) (.slice none 0 0)).alloc (.cells #[.int .i64 0, .int .i64 0, .int .i64 0, .int .i64 0, .slice none 0 0, .slice none 0 0] 30))
      change bodyPost _ _ _ _ _ (World.alloc (put6 w5 gR (.int .i64 0) (.int .i64 0) (.int .i64 0) (.int .i64 0) (.slice none 0 0) (.slice none 0 0)) (.cells #[.int .i64 0, .int .i64 0, .int .i64 0, .int .i64 0, .slice none 0 0, .slice none 0 0] 30))
      change Box (World.alloc (put6 w5 gR (.int .i64 0) (.int .i64 0) (.int .i64 0) (.int .i64 0) (.slice none 0 0) (.slice none 0 0)) (.cells #[.int .i64 0, .int .i64 0, .int .i64 0, .int .i64 0, .slice none 0 0, .slice none 0 0] 30)) _ _ _ at qx
      generalize World.alloc (put6 w5 gR (.int .i64 0) (.int .i64 0) (.int .i64 0) (.int .i64 0) (.slice none 0 0) (.slice none 0 0)) (.cells #[.int .i64 0, .int .i64 0, .int .i64 0, .int .i64 0, .slice none 0 0, .slice none 0 0] 30) = Wf at *
      obtain ⟨cq0, cq1, cq2, cq3, cq4, cq5⟩ := qx.d6
      exact bodyPost_ret (v := .tuple #[.agg #[.int .i64 0, .int .i64 0, .int .i64 0, .int .i64 0, .slice none 0 0, .slice none 0 0], .int .i64 1, .iface 217 (.agg #[.int .i64 1, .int .i64 19])]) (by simp [results, Tryz.results116, go_sem, cq0, cq1, cq2, cq3, cq4, cq5]) rfl (RetNS.no HN.out hnf)
    | some u1 =>
      have HU1 := Lib.hid hv
      have HN : Hid (newU (rdU (readP ss ws 0)) (rdU (readP ss ws 1)) = some (u1, 1)) := Lib.hid (by rw [HU0.out, hv]; rfl)
      clear hv
      obtain ⟨g1, b1, p1, q1, xs1, ms1⟩ := u1
      obtain ⟨Ax1, cx1, Am1, cm1, he, hcc, hS1, hM1⟩ := h2' _ HU1.out
      replace he : e = .returned (.tuple #[.agg #[.int .i64 g1, .int .i64 b1, .int .i64 p1, .int .i64 q1, .slice Ax1 xs1.length cx1, .slice Am1 ms1.length cm1], .nilIface]) := he
      replace hS1 : SlI w5 w4.heap.size Ax1 xs1 := hS1
      replace hM1 : SlM w5 w4.heap.size Am1 ms1 := hM1
      replace hcc : xs1.length ≤ cx1 := hcc
      have HCC := Lib.hid hcc
      subst he
      clear h1 h2' hcc
      obtain ⟨u0, u1, u2, u3, u4, u5⟩ := b5.d6
      have f0 := b5.frozen 0
      have f1 := b5.frozen 1
      have f2 := b5.frozen 2
      have f3 := b5.frozen 3
      have f4 := b5.frozen 4
      have f5 := b5.frozen 5
      go_wp2
      have qx := ((put6_box b5 (.int .i64 g1) (.int .i64 b1) (.int .i64 p1) (.int .i64 q1) (.slice Ax1 xs1.length cx1) (.slice Am1 ms1.length cm1)).alloc (.cells #[.int .i64 g1, .int .i64 b1, .int .i64 p1, .int .i64 q1, .slice Ax1 xs1.length cx1, .slice Am1 ms1.length cm1] 30))
      have hnf := ((put6_nx hx5 (hgR) (.int .i64 g1) (.int .i64 b1) (.int .i64 p1) (.int .i64 q1) (.slice Ax1 xs1.length cx1) (.slice Am1 ms1.length cm1)).alloc (.cells #[.int .i64 g1, .int .i64 b1, .int .i64 p1, .int .i64 q1, .slice Ax1 xs1.length cx1, .slice Am1 ms1.length cm1] 30))
      have hsf := ((hS1.pt6 hlt4 (.int .i64 g1) (.int .i64 b1) (.int .i64 p1) (.int .i64 q1) (.slice Ax1 xs1.length cx1) (.slice Am1 ms1.length cm1)).nx ((Nx.refl _).alloc (.cells #[.int .i64 g1, .int .i64 b1, .int .i64 p1, .int .i64 q1, .slice Ax1 xs1.length cx1, .slice Am1 ms1.length cm1] 30)))
      change Sl (World.alloc (put6 w5 gR (.int .i64 g1) (.int .i64 b1) (.int .i64 p1) (.int .i64 q1) (.slice Ax1 xs1.length cx1) (.slice Am1 ms1.length cm1)) (.cells #[.int .i64 g1, .int .i64 b1, .int .i64 p1, .int .i64 q1, .slice Ax1 xs1.length cx1, .slice Am1 ms1.length cm1] 30)) _ _ _ _ _ at hsf
      have hmf := ((hM1.pt6 hlt4 (.int .i64 g1) (.int .i64 b1) (.int .i64 p1) (.int .i64 q1) (.slice Ax1 xs1.length cx1) (.slice Am1 ms1.length cm1)).nx ((Nx.refl _).alloc (.cells #[.int .i64 g1, .int .i64 b1, .int .i64 p1, .int .i64 q1, .slice Ax1 xs1.length cx1, .slice Am1 ms1.length cm1] 30)))
      change Sl (World.alloc (put6 w5 gR (.int .i64 g1) (.int .i64 b1) (.int .i64 p1) (.int .i64 q1) (.slice Ax1 xs1.length cx1) (.slice Am1 ms1.length cm1)) (.cells #[.int .i64 g1, .int .i64 b1, .int .i64 p1, .int .i64 q1, .slice Ax1 xs1.length cx1, .slice Am1 ms1.length cm1] 30)) _ _ _ _ _ at hmf
      change bodyPost _ _ _ _ _ (World.alloc (put6 w5 gR (.int .i64 g1) (.int .i64 b1) (.int .i64 p1) (.int .i64 q1) (.slice Ax1 xs1.length cx1) (.slice Am1 ms1.length cm1)) (.cells #[.int .i64 g1, .int .i64 b1, .int .i64 p1, .int .i64 q1, .slice Ax1 xs1.length cx1, .slice Am1 ms1.length cm1] 30))
      change Box (World.alloc (put6 w5 gR (.int .i64 g1) (.int .i64 b1) (.int .i64 p1) (.int .i64 q1) (.slice Ax1 xs1.length cx1) (.slice Am1 ms1.length cm1)) (.cells #[.int .i64 g1, .int .i64 b1, .int .i64 p1, .int .i64 q1, .slice Ax1 xs1.length cx1, .slice Am1 ms1.length cm1] 30)) _ _ _ at qx
      generalize World.alloc (put6 w5 gR (.int .i64 g1) (.int .i64 b1) (.int .i64 p1) (.int .i64 q1) (.slice Ax1 xs1.length cx1) (.slice Am1 ms1.length cm1)) (.cells #[.int .i64 g1, .int .i64 b1, .int .i64 p1, .int .i64 q1, .slice Ax1 xs1.length cx1, .slice Am1 ms1.length cm1] 30) = Wf at *
      obtain ⟨hmf0, hmf1, hmf2, hmf3, hmf4, hmf5⟩ := qx.d6
      exact bodyPost_ret (v := .tuple #[.agg #[.int .i64 g1, .int .i64 b1, .int .i64 p1, .int .i64 q1, .slice Ax1 xs1.length cx1, .slice Am1 ms1.length cm1], .int .i64 1, .nilIface]) (by simp [results, Tryz.results116, go_sem, hmf0, hmf1, hmf2, hmf3, hmf4, hmf5]) rfl (RetNS.yes (u := (g1, b1, p1, q1, xs1, ms1)) HN.out HCC.out (hsf.low (by omega)) (hmf.low (by omega)) hnf)
  | some u0 =>
    have HU0 := Lib.hid hu
    cases hv : rdU (readP ss ws 1) with
    | none =>
      obtain rfl := h2' _ hu hv
      have HN : Hid (newU (rdU (readP ss ws 0)) (rdU (readP ss ws 1)) = some (u0, 0)) := Lib.hid (by rw [HU0.out, hv]; rfl)
      clear h1 h2' h3' hu hv
      go_wp2_with fail
      have bE := Box.new ((w1.alloc (.cells #[.int .i64 0, .int .i64 0, .int .i64 0, .int .i64 0, .slice none 0 0, .slice none 0 0] 30)).alloc (.cells #[.int .i64 0, .int .i64 0, .int .i64 0, .int .i64 0, .slice none 0 0, .slice none 0 0] 30)) 217 #[.int .i64 0, .int .i64 0]
      have hx3 := (((hx1.alloc (.cells #[.int .i64 0, .int .i64 0, .int .i64 0, .int .i64 0, .slice none 0 0, .slice none 0 0] 30)).alloc (.cells #[.int .i64 0, .int .i64 0, .int .i64 0, .int .i64 0, .slice none 0 0, .slice none 0 0] 30)).alloc (.cells #[.int .i64 0, .int .i64 0] 217))
      have b3 := (((b1.alloc (.cells #[.int .i64 0, .int .i64 0, .int .i64 0, .int .i64 0, .slice none 0 0, .slice none 0 0] 30)).alloc (.cells #[.int .i64 0, .int .i64 0, .int .i64 0, .int .i64 0, .slice none 0 0, .slice none 0 0] 30)).alloc (.cells #[.int .i64 0, .int .i64 0] 217))
      have e3 := (((e1.alloc (.cells #[.int .i64 0, .int .i64 0, .int .i64 0, .int .i64 0, .slice none 0 0, .slice none 0 0] 30)).alloc (.cells #[.int .i64 0, .int .i64 0, .int .i64 0, .int .i64 0, .slice none 0 0, .slice none 0 0] 30)).alloc (.cells #[.int .i64 0, .int .i64 0] 217))
      simp only [World.size_alloc] at bE
      change Calls _ _ _ (((w1.alloc (.cells #[.int .i64 0, .int .i64 0, .int .i64 0, .int .i64 0, .slice none 0 0, .slice none 0 0] 30)).alloc (.cells #[.int .i64 0, .int .i64 0, .int .i64 0, .int .i64 0, .slice none 0 0, .slice none 0 0] 30)).alloc (.cells #[.int .i64 0, .int .i64 0] 217)) _
      generalize (((w1.alloc (.cells #[.int .i64 0, .int .i64 0, .int .i64 0, .int .i64 0, .slice none 0 0, .slice none 0 0] 30)).alloc (.cells #[.int .i64 0, .int .i64 0, .int .i64 0, .int .i64 0, .slice none 0 0, .slice none 0 0] 30)).alloc (.cells #[.int .i64 0, .int .i64 0] 217)) = w3 at *
      obtain ⟨gE, HgE⟩ : ∃ g, Hid (w1.heap.size + 1 + 1 = g) := ⟨_, rfl⟩
      rw [HgE.out] at bE ⊢
      have hgE : gR < gE := by have := HgE.out; omega
      have hgE2 : w.heap.size < gE := by omega
      refine (as_hit 1 19 gE _ _ _ (hEt.nx hx3) bE).mono ?_
      rintro e w4 ⟨rfl, hrg, bF⟩
      have b4 := b3.rg hrg (.inl hgE)
      have e4 := e3.rg hrg (.inl hgE2)
      have hx4 := Rg.nx_of hx3 hrg (by omega)
      have y0 := bF.c0
      have z0 := e4.c0
      have z1 := e4.c1
      clear b3 e3 hx3 bE
      go_wp2_with (go_at_call 203; refine (otherSlot_c 1 _ (by omega) (by omega)).mono ?_; rintro e w' ⟨rfl, rfl⟩)
      refine (superIn_c A A2 n c n2 c2 B 0 ss ws _ a0 a1 (h.below hx4 hB) (h2.below hx4 hB) (Nat.le_trans hB hx4.size) (by omega) hn hn2 hr0 (hE.nx hx4) (hM.nx hx4)).mono ?_
      rintro e w5 ⟨hnx5, h1, h2'⟩
      have b5 := b4.nx hnx5
      have hx5 := hx4.trans hnx5
      have hlt5 := b5.lt
      have hlt4 := b4.lt
      clear b4 e4 hx4 bF y0 z0 z1
      obtain ⟨g0, b0, p0, q0, xs0, ms0⟩ := u0
      obtain ⟨Ax0, cx0, Am0, cm0, he, hcc, hS1, hM1⟩ := h2' _ HU0.out
      replace he : e = .returned (.tuple #[.agg #[.int .i64 g0, .int .i64 b0, .int .i64 p0, .int .i64 q0, .slice Ax0 xs0.length cx0, .slice Am0 ms0.length cm0], .nilIface]) := he
      replace hS1 : SlI w5 w4.heap.size Ax0 xs0 := hS1
      replace hM1 : SlM w5 w4.heap.size Am0 ms0 := hM1
      replace hcc : xs0.length ≤ cx0 := hcc
      have HCC := Lib.hid hcc
      subst he
      clear h1 h2' hcc
      obtain ⟨u0, u1, u2, u3, u4, u5⟩ := b5.d6
      have f0 := b5.frozen 0
      have f1 := b5.frozen 1
      have f2 := b5.frozen 2
      have f3 := b5.frozen 3
      have f4 := b5.frozen 4
      have f5 := b5.frozen 5
      go_wp2
      have qx := ((put6_box b5 (.int .i64 g0) (.int .i64 b0) (.int .i64 p0) (.int .i64 q0) (.slice Ax0 xs0.length cx0) (.slice Am0 ms0.length cm0)).alloc (.cells #[.int .i64 g0, .int .i64 b0, .int .i64 p0, .int .i64 q0, .slice Ax0 xs0.length cx0, .slice Am0 ms0.length cm0] 30))
      have hnf := ((put6_nx hx5 (hgR) (.int .i64 g0) (.int .i64 b0) (.int .i64 p0) (.int .i64 q0) (.slice Ax0 xs0.length cx0) (.slice Am0 ms0.length cm0)).alloc (.cells #[.int .i64 g0, .int .i64 b0, .int .i64 p0, .int .i64 q0, .slice Ax0 xs0.length cx0, .slice Am0 ms0.length cm0] 30))
      have hsf := ((hS1.pt6 hlt4 (.int .i64 g0) (.int .i64 b0) (.int .i64 p0) (.int .i64 q0) (.slice Ax0 xs0.length cx0) (.slice Am0 ms0.length cm0)).nx ((Nx.refl _).alloc (.cells #[.int .i64 g0, .int .i64 b0, .int .i64 p0, .int .i64 q0, .slice Ax0 xs0.length cx0, .slice Am0 ms0.length cm0] 30)))
      change Sl (World.alloc (put6 w5 gR (.int .i64 g0) (.int .i64 b0) (.int .i64 p0) (.int .i64 q0) (.slice Ax0 xs0.length cx0) (.slice Am0 ms0.length cm0)) (.cells #[.int .i64 g0, .int .i64 b0, .int .i64 p0, .int .i64 q0, .slice Ax0 xs0.length cx0, .slice Am0 ms0.length cm0] 30)) _ _ _ _ _ at hsf
      have hmf := ((hM1.pt6 hlt4 (.int .i64 g0) (.int .i64 b0) (.int .i64 p0) (.int .i64 q0) (.slice Ax0 xs0.length cx0) (.slice Am0 ms0.length cm0)).nx ((Nx.refl _).alloc (.cells #[.int .i64 g0, .int .i64 b0, .int .i64 p0, .int .i64 q0, .slice Ax0 xs0.length cx0, .slice Am0 ms0.length cm0] 30)))
      change Sl (World.alloc (put6 w5 gR (.int .i64 g0) (.int .i64 b0) (.int .i64 p0) (.int .i64 q0) (.slice Ax0 xs0.length cx0) (.slice Am0 ms0.length cm0)) (.cells #[.int .i64 g0, .int .i64 b0, .int .i64 p0, .int .i64 q0, .slice Ax0 xs0.length cx0, .slice Am0 ms0.length cm0] 30)) _ _ _ _ _ at hmf
      change bodyPost _ _ _ _ _ (World.alloc (put6 w5 gR (.int .i64 g0) (.int .i64 b0) (.int .i64 p0) (.int .i64 q0) (.slice Ax0 xs0.length cx0) (.slice Am0 ms0.length cm0)) (.cells #[.int .i64 g0, .int .i64 b0, .int .i64 p0, .int .i64 q0, .slice Ax0 xs0.length cx0, .slice Am0 ms0.length cm0] 30))
      change Box (World.alloc (put6 w5 gR (.int .i64 g0) (.int .i64 b0) (.int .i64 p0) (.int .i64 q0) (.slice Ax0 xs0.length cx0) (.slice Am0 ms0.length cm0)) (.cells #[.int .i64 g0, .int .i64 b0, .int .i64 p0, .int .i64 q0, .slice Ax0 xs0.length cx0, .slice Am0 ms0.length cm0] 30)) _ _ _ at qx
      generalize World.alloc (put6 w5 gR (.int .i64 g0) (.int .i64 b0) (.int .i64 p0) (.int .i64 q0) (.slice Ax0 xs0.length cx0) (.slice Am0 ms0.length cm0)) (.cells #[.int .i64 g0, .int .i64 b0, .int .i64 p0, .int .i64 q0, .slice Ax0 xs0.length cx0, .slice Am0 ms0.length cm0] 30) = Wf at *
      obtain ⟨hmf0, hmf1, hmf2, hmf3, hmf4, hmf5⟩ := qx.d6
      exact bodyPost_ret (v := .tuple #[.agg #[.int .i64 g0, .int .i64 b0, .int .i64 p0, .int .i64 q0, .slice Ax0 xs0.length cx0, .slice Am0 ms0.length cm0], .int .i64 0, .nilIface]) (by simp [results, Tryz.results116, go_sem, hmf0, hmf1, hmf2, hmf3, hmf4, hmf5]) rfl (RetNS.yes (u := (g0, b0, p0, q0, xs0, ms0)) HN.out HCC.out (hsf.low (by omega)) (hmf.low (by omega)) hnf)
    | some u1 =>
      have bR1 := b1
      obtain ⟨g0, b0, p0, q0, xs0, ms0⟩ := u0
      obtain ⟨g1, b1, p1, q1, xs1, ms1⟩ := u1
      obtain ⟨Ax0, cx0, Am0, cm0, Ax1, cx1, Am1, cm1, he, ⟨hc0, hS0, hM0⟩, ⟨hc1, hS1, hM1⟩⟩ := h3' _ _ hu hv
      have HU1 := Lib.hid hv
      unfold vU at he
      replace hS0 : SlI w1 W.heap.size Ax0 xs0 := hS0
      replace hM0 : SlM w1 W.heap.size Am0 ms0 := hM0
      replace hS1 : SlI w1 W.heap.size Ax1 xs1 := hS1
      replace hM1 : SlM w1 W.heap.size Am1 ms1 := hM1
      have HCC0 : Hid (xs0.length ≤ cx0) := Lib.hid hc0
      have HCC1 : Hid (xs1.length ≤ cx1) := Lib.hid hc1
      replace he : e = .returned (.tuple #[.agg #[.int .i64 g0, .int .i64 b0, .int .i64 p0, .int .i64 q0, .slice Ax0 xs0.length cx0, .slice Am0 ms0.length cm0], .agg #[.int .i64 g1, .int .i64 b1, .int .i64 p1, .int .i64 q1, .slice Ax1 xs1.length cx1, .slice Am1 ms1.length cm1], .nilIface]) := he
      subst he
      clear h1 h2' h3' hu hv hc0 hc1
      go_wp2_with fail
      have hz3 := ((((Nx.refl w1).alloc (.cells #[.int .i64 g0, .int .i64 b0, .int .i64 p0, .int .i64 q0, .slice Ax0 xs0.length cx0, .slice Am0 ms0.length cm0] 30)).alloc (.cells #[.int .i64 g1, .int .i64 b1, .int .i64 p1, .int .i64 q1, .slice Ax1 xs1.length cx1, .slice Am1 ms1.length cm1] 30)).alloc (.cells #[.int .i64 0, .int .i64 0] 217))
      have b3 := bR1.nx hz3
      have hx3 := hx1.trans hz3
      have hS0c := hS0.nx hz3
      have hM0c := hM0.nx hz3
      have hS1c := hS1.nx hz3
      have hM1c := hM1.nx hz3
      have bA := ((Box.new w1 30 #[.int .i64 g0, .int .i64 b0, .int .i64 p0, .int .i64 q0, .slice Ax0 xs0.length cx0, .slice Am0 ms0.length cm0]).alloc (.cells #[.int .i64 g1, .int .i64 b1, .int .i64 p1, .int .i64 q1, .slice Ax1 xs1.length cx1, .slice Am1 ms1.length cm1] 30)).alloc (.cells #[.int .i64 0, .int .i64 0] 217)
      have bB : Box (((w1.alloc (.cells #[.int .i64 g0, .int .i64 b0, .int .i64 p0, .int .i64 q0, .slice Ax0 xs0.length cx0, .slice Am0 ms0.length cm0] 30)).alloc (.cells #[.int .i64 g1, .int .i64 b1, .int .i64 p1, .int .i64 q1, .slice Ax1 xs1.length cx1, .slice Am1 ms1.length cm1] 30)).alloc (.cells #[.int .i64 0, .int .i64 0] 217)) (w1.heap.size + 1) 30 #[.int .i64 g1, .int .i64 b1, .int .i64 p1, .int .i64 q1, .slice Ax1 xs1.length cx1, .slice Am1 ms1.length cm1] := by have := (Box.new (w1.alloc (.cells #[.int .i64 g0, .int .i64 b0, .int .i64 p0, .int .i64 q0, .slice Ax0 xs0.length cx0, .slice Am0 ms0.length cm0] 30)) 30 #[.int .i64 g1, .int .i64 b1, .int .i64 p1, .int .i64 q1, .slice Ax1 xs1.length cx1, .slice Am1 ms1.length cm1]).alloc (.cells #[.int .i64 0, .int .i64 0] 217); rwa [World.size_alloc] at this
      change Calls _ _ _ (((w1.alloc (.cells #[.int .i64 g0, .int .i64 b0, .int .i64 p0, .int .i64 q0, .slice Ax0 xs0.length cx0, .slice Am0 ms0.length cm0] 30)).alloc (.cells #[.int .i64 g1, .int .i64 b1, .int .i64 p1, .int .i64 q1, .slice Ax1 xs1.length cx1, .slice Am1 ms1.length cm1] 30)).alloc (.cells #[.int .i64 0, .int .i64 0] 217)) _
      generalize (((w1.alloc (.cells #[.int .i64 g0, .int .i64 b0, .int .i64 p0, .int .i64 q0, .slice Ax0 xs0.length cx0, .slice Am0 ms0.length cm0] 30)).alloc (.cells #[.int .i64 g1, .int .i64 b1, .int .i64 p1, .int .i64 q1, .slice Ax1 xs1.length cx1, .slice Am1 ms1.length cm1] 30)).alloc (.cells #[.int .i64 0, .int .i64 0] 217)) = w3 at *
      refine (as_nil _ _).mono ?_
      rintro e w' ⟨rfl, hw'⟩
      rw [hw']
      clear hw'
      obtain ⟨m0, m1, m2, m3, m4, m5⟩ := bA.d6
      obtain ⟨r0, r1, r2, r3, r4, r5⟩ := bB.d6
      have hltA := bA.lt
      have hltB := bB.lt
      have hlt3 := b3.lt
      by_cases hgt : g0 < g1
      · have hd : decide (g0 < g1) = true := decide_eq_true hgt
        have HN : Hid (newU (rdU (readP ss ws 0)) (rdU (readP ss ws 1)) = some ((g1, b1, p1, q1, xs1, ms1), 1)) := Lib.hid (by rw [HU0.out, HU1.out]; show (if g0 < g1 then _ else _) = _; rw [if_pos hgt])
        clear hgt
        obtain ⟨u0, u1, u2, u3, u4, u5⟩ := b3.d6
        have f0 := b3.frozen 0
        have f1 := b3.frozen 1
        have f2 := b3.frozen 2
        have f3 := b3.frozen 3
        have f4 := b3.frozen 4
        have f5 := b3.frozen 5
        go_wp2
        have qx := (put6_box b3 (.int .i64 g1) (.int .i64 b1) (.int .i64 p1) (.int .i64 q1) (.slice Ax1 xs1.length cx1) (.slice Am1 ms1.length cm1))
        have hnf := (put6_nx hx3 (hgR) (.int .i64 g1) (.int .i64 b1) (.int .i64 p1) (.int .i64 q1) (.slice Ax1 xs1.length cx1) (.slice Am1 ms1.length cm1))
        have hsf := (hS1c.pt6 hltW (.int .i64 g1) (.int .i64 b1) (.int .i64 p1) (.int .i64 q1) (.slice Ax1 xs1.length cx1) (.slice Am1 ms1.length cm1))
        change Sl (put6 w3 gR (.int .i64 g1) (.int .i64 b1) (.int .i64 p1) (.int .i64 q1) (.slice Ax1 xs1.length cx1) (.slice Am1 ms1.length cm1)) _ _ _ _ _ at hsf
        have hmf := (hM1c.pt6 hltW (.int .i64 g1) (.int .i64 b1) (.int .i64 p1) (.int .i64 q1) (.slice Ax1 xs1.length cx1) (.slice Am1 ms1.length cm1))
        change Sl (put6 w3 gR (.int .i64 g1) (.int .i64 b1) (.int .i64 p1) (.int .i64 q1) (.slice Ax1 xs1.length cx1) (.slice Am1 ms1.length cm1)) _ _ _ _ _ at hmf
        change bodyPost _ _ _ _ _ (put6 w3 gR (.int .i64 g1) (.int .i64 b1) (.int .i64 p1) (.int .i64 q1) (.slice Ax1 xs1.length cx1) (.slice Am1 ms1.length cm1))
        change Box (put6 w3 gR (.int .i64 g1) (.int .i64 b1) (.int .i64 p1) (.int .i64 q1) (.slice Ax1 xs1.length cx1) (.slice Am1 ms1.length cm1)) _ _ _ at qx
        generalize put6 w3 gR (.int .i64 g1) (.int .i64 b1) (.int .i64 p1) (.int .i64 q1) (.slice Ax1 xs1.length cx1) (.slice Am1 ms1.length cm1) = Wf at *
        obtain ⟨hmf0, hmf1, hmf2, hmf3, hmf4, hmf5⟩ := qx.d6
        exact bodyPost_ret (v := .tuple #[.agg #[.int .i64 g1, .int .i64 b1, .int .i64 p1, .int .i64 q1, .slice Ax1 xs1.length cx1, .slice Am1 ms1.length cm1], .int .i64 1, .nilIface]) (by simp [results, Tryz.results116, go_sem, hmf0, hmf1, hmf2, hmf3, hmf4, hmf5]) rfl (RetNS.yes (u := (g1, b1, p1, q1, xs1, ms1)) HN.out HCC1.out (hsf.low (by omega)) (hmf.low (by omega)) hnf)
      · have hd : decide (g0 < g1) = false := decide_eq_false hgt
        have HN : Hid (newU (rdU (readP ss ws 0)) (rdU (readP ss ws 1)) = some ((g0, b0, p0, q0, xs0, ms0), 0)) := Lib.hid (by rw [HU0.out, HU1.out]; show (if g0 < g1 then _ else _) = _; rw [if_neg hgt])
        clear hgt
        obtain ⟨u0, u1, u2, u3, u4, u5⟩ := b3.d6
        have f0 := b3.frozen 0
        have f1 := b3.frozen 1
        have f2 := b3.frozen 2
        have f3 := b3.frozen 3
        have f4 := b3.frozen 4
        have f5 := b3.frozen 5
        go_wp2
        have qx := (put6_box b3 (.int .i64 g0) (.int .i64 b0) (.int .i64 p0) (.int .i64 q0) (.slice Ax0 xs0.length cx0) (.slice Am0 ms0.length cm0))
        have hnf := (put6_nx hx3 (hgR) (.int .i64 g0) (.int .i64 b0) (.int .i64 p0) (.int .i64 q0) (.slice Ax0 xs0.length cx0) (.slice Am0 ms0.length cm0))
        have hsf := (hS0c.pt6 hltW (.int .i64 g0) (.int .i64 b0) (.int .i64 p0) (.int .i64 q0) (.slice Ax0 xs0.length cx0) (.slice Am0 ms0.length cm0))
        change Sl (put6 w3 gR (.int .i64 g0) (.int .i64 b0) (.int .i64 p0) (.int .i64 q0) (.slice Ax0 xs0.length cx0) (.slice Am0 ms0.length cm0)) _ _ _ _ _ at hsf
        have hmf := (hM0c.pt6 hltW (.int .i64 g0) (.int .i64 b0) (.int .i64 p0) (.int .i64 q0) (.slice Ax0 xs0.length cx0) (.slice Am0 ms0.length cm0))
        change Sl (put6 w3 gR (.int .i64 g0) (.int .i64 b0) (.int .i64 p0) (.int .i64 q0) (.slice Ax0 xs0.length cx0) (.slice Am0 ms0.length cm0)) _ _ _ _ _ at hmf
        change bodyPost _ _ _ _ _ (put6 w3 gR (.int .i64 g0) (.int .i64 b0) (.int .i64 p0) (.int .i64 q0) (.slice Ax0 xs0.length cx0) (.slice Am0 ms0.length cm0))
        change Box (put6 w3 gR (.int .i64 g0) (.int .i64 b0) (.int .i64 p0) (.int .i64 q0) (.slice Ax0 xs0.length cx0) (.slice Am0 ms0.length cm0)) _ _ _ at qx
        generalize put6 w3 gR (.int .i64 g0) (.int .i64 b0) (.int .i64 p0) (.int .i64 q0) (.slice Ax0 xs0.length cx0) (.slice Am0 ms0.length cm0) = Wf at *
        obtain ⟨hmf0, hmf1, hmf2, hmf3, hmf4, hmf5⟩ := qx.d6
        exact bodyPost_ret (v := .tuple #[.agg #[.int .i64 g0, .int .i64 b0, .int .i64 p0, .int .i64 q0, .slice Ax0 xs0.length cx0, .slice Am0 ms0.length cm0], .int .i64 0, .nilIface]) (by simp [results, Tryz.results116, go_sem, hmf0, hmf1, hmf2, hmf3, hmf4, hmf5]) rfl (RetNS.yes (u := (g0, b0, p0, q0, xs0, ms0)) HN.out HCC0.out (hsf.low (by omega)) (hmf.low (by omega)) hnf)
end Go.Proofs.YtehahodomfbpjaaGreatDoor
/- Contract of the model's l04Newest. Conditions: the disk can be read; the slots' texts have at most 65536 bytes. -/
namespace Go.Proofs.YtehahodomfbpjaaGreatDoor
set_option linter.unusedVariables false
set_option maxRecDepth 100000
open Go.RowKit

def RetLN (w : World) (o : Option (U6 × Int)) (e : Ending) (w' : World) : Prop :=
  Nx w w' ∧ (o = none → e = .returned (.tuple #[.agg #[.int .i64 0, .int .i64 0, .int .i64 0, .int .i64 0, .slice none 0 0, .slice none 0 0], .int .i64 (-1)])) ∧ ∀ u s, o = some (u, s) → ∃ A c A2 c2, e = .returned (.tuple #[vU u A c A2 c2, .int .i64 s]) ∧ FitU w' w.heap.size u A c A2
theorem RetLN.no {w w' : World} {o : Option (U6 × Int)} (h : o = none) (hn : Nx w w') : RetLN w o (.returned (.tuple #[.agg #[.int .i64 0, .int .i64 0, .int .i64 0, .int .i64 0, .slice none 0 0, .slice none 0 0], .int .i64 (-1)])) w' :=
  ⟨hn, fun _ => rfl, fun u s h2 => by rw [h] at h2; cases h2⟩
theorem RetLN.yes {w w' : World} {o : Option (U6 × Int)} {u : U6} {s : Int} {A A2 : Option Addr} {c c2 : Nat} (h : o = some (u, s)) (hc : u.2.2.2.2.1.length ≤ c) (hs : SlI w' w.heap.size A u.2.2.2.2.1) (hm : SlM w' w.heap.size A2 u.2.2.2.2.2) (hn : Nx w w') :
    RetLN w o (.returned (.tuple #[vU u A c A2 c2, .int .i64 s])) w' :=
  ⟨hn, (fun h2 => by rw [h] at h2; cases h2), fun u' s' h2 => by rw [h] at h2; cases h2; exact ⟨A, c, A2, c2, rfl, hc, hs, hm⟩⟩
end Go.Proofs.YtehahodomfbpjaaGreatDoor
/- Contracts of NewestSuper, as the program and as the model have it. Conditions: the disk can be read, and holds at most 1048576 elements of a kind; for the program: the package's errors are known, the library's variables MaxLen and errorType too. -/
namespace Go.Proofs.YtehahodomfbpjaaGreatDoor
set_option linter.unusedVariables false
set_option maxRecDepth 100000
open Go.RowKit

/-- What NewestSuper answers: a super, a slot, a code. -/
def newA (ss : List ByteArray) (ws : List (Int × ByteArray)) : U6 × Int × Int :=
  if diskB ss ws then (match newU (rdU (readP ss ws 0)) (rdU (readP ss ws 1)) with | none => (zU, 0, 19) | some (u, s) => (u, s, 0)) else (zU, 0, 1)
theorem newU_from {o0 o1 : Option U6} {u : U6} {s : Int} (h : newU o0 o1 = some (u, s)) : o0 = some u ∨ o1 = some u := by
  unfold newU at h
  split at h
  · split at h <;> cases h
    · exact .inr rfl
    · exact .inl rfl
  · cases h; exact .inl rfl
  · cases h; exact .inr rfl
  · cases h
def RetNW (w : World) (ss : List ByteArray) (ws : List (Int × ByteArray)) (e : Ending) (w' : World) : Prop :=
  Nx w w' ∧ ∃ A c A2 c2, e = .returned (.tuple #[vU (newA ss ws).1 A c A2 c2, .int .i64 (newA ss ws).2.1, .int .i64 (newA ss ws).2.2]) ∧ FitU w' w.heap.size (newA ss ws).1 A c A2
theorem RetNW.un {w w' : World} {ss : List ByteArray} {ws : List (Int × ByteArray)} {e : Ending} {g b p q s k : Int} {xs : List Int} {ms : List Mrk} (h : RetNW w ss ws e w') (hq : newA ss ws = ((g, b, p, q, xs, ms), s, k)) :
    Nx w w' ∧ ∃ A c A2 c2, e = .returned (.tuple #[.agg #[.int .i64 g, .int .i64 b, .int .i64 p, .int .i64 q, .slice A xs.length c, .slice A2 ms.length c2], .int .i64 s, .int .i64 k]) ∧ xs.length ≤ c ∧ SlI w' w.heap.size A xs ∧ SlM w' w.heap.size A2 ms := by
  unfold RetNW at h; rw [hq] at h; exact h
theorem RetNW.mk {w w' : World} {ss : List ByteArray} {ws : List (Int × ByteArray)} {g b p q s k : Int} {xs : List Int} {ms : List Mrk} {c c2 : Nat} {A A2 : Option Addr} (hq : newA ss ws = ((g, b, p, q, xs, ms), s, k)) (hc : xs.length ≤ c) (hs : SlI w' w.heap.size A xs) (hm : SlM w' w.heap.size A2 ms) (hn : Nx w w') :
    RetNW w ss ws (.returned (.tuple #[.agg #[.int .i64 g, .int .i64 b, .int .i64 p, .int .i64 q, .slice A xs.length c, .slice A2 ms.length c2], .int .i64 s, .int .i64 k])) w' := by
  unfold RetNW; rw [hq]; exact ⟨hn, A, c, A2, c2, rfl, hc, hs, hm⟩
theorem RetNW.zero {w w' : World} {ss : List ByteArray} {ws : List (Int × ByteArray)} {s k : Int} (hq : newA ss ws = (zU, s, k)) (hn : Nx w w') :
    RetNW w ss ws (.returned (.tuple #[.agg #[.int .i64 0, .int .i64 0, .int .i64 0, .int .i64 0, .slice none 0 0, .slice none 0 0], .int .i64 s, .int .i64 k])) w' := RetNW.mk (g := 0) (b := 0) (p := 0) (q := 0) (xs := []) (ms := []) hq (Nat.le_refl _) SlI.nil SlM.nil hn
end Go.Proofs.YtehahodomfbpjaaGreatDoor
/- Contracts of SegText, as the model and as the program have it: both answer the same text and code. Conditions: the segment can be read, and has at most 1048576 changes. -/
namespace Go.Proofs.YtehahodomfbpjaaGreatDoor
set_option linter.unusedVariables false
set_option maxRecDepth 100000
open Go.RowKit

def chV (c : Chg) : List Value := [.int .i64 c.1, .int .i64 c.2.1, .int .i64 c.2.2]
theorem Own.new3 (w : World) (t : TypeId) (a b c : Value) : Own (w.alloc (.cells #[a, b, c] t)) w.heap.size t 3 (fun i => #[a, b, c].getD i undef) :=
  ⟨_, heap_alloc_new w _, by simp, fun i hi => by
    match i, hi with
    | 0, _ => rfl
    | 1, _ => rfl
    | 2, _ => rfl⟩
end Go.Proofs.YtehahodomfbpjaaGreatDoor
/- Segments read back from numbers: what they are, and words on lists of changes that grow. Conditions: none. -/
namespace Go.Proofs.YtehahodomfbpjaaGreatDoor
set_option linter.unusedVariables false
set_option maxRecDepth 100000
open Go.RowKit

def chN3 (ns : List Nat) (j : Nat) : Chg := ((ns.getD (3 + 3 * j) 0 : Nat), (ns.getD (3 + 3 * j + 1) 0 : Nat), (ns.getD (3 + 3 * j + 2) 0 : Nat))
def chOf (ns : List Nat) (k : Nat) : List Chg := (List.range k).map (chN3 ns)
theorem chOf_len (ns : List Nat) (k : Nat) : (chOf ns k).length = k := by simp [chOf]
theorem chOf_succ (ns : List Nat) (k : Nat) : chOf ns (k + 1) = chOf ns k ++ [chN3 ns k] := by simp [chOf, List.range_succ]
def chsV (cs : List Chg) : List Value := cs.flatMap chV
theorem chsV_succ (ns : List Nat) (k : Nat) : chsV (chOf ns (k + 1)) = chsV (chOf ns k) ++ chV (chN3 ns k) := by
  unfold chsV; rw [chOf_succ, List.flatMap_append]; simp
theorem chsV_get : ∀ (cs : List Chg) (i : Nat), i < cs.length * 3 → (chsV cs)[i]? = some (chAt cs i)
  | [], i, h => by simp at h
  | c :: cs, i, h => by
    show (chV c ++ chsV cs)[i]? = _
    by_cases hi : i < 3
    · rw [List.getElem?_append_left (by simpa [chV] using hi)]
      match i, hi with
      | 0, _ => rfl
      | 1, _ => rfl
      | 2, _ => rfl
    · rw [List.getElem?_append_right (by simpa [chV] using hi)]
      have hl : (chV c).length = 3 := rfl
      rw [hl, chsV_get cs (i - 3) (by simp at h; omega)]
      have e1 : (i - 3) % 3 = i % 3 := by omega
      have e2 : i / 3 = (i - 3) / 3 + 1 := by omega
      unfold chAt
      rw [e1, e2, List.getD_cons_succ]
/-- The segment of a text: its three numbers and its changes. -/
abbrev G4 := Nat × Nat × Nat × List Chg
def sgOf (ns : List Nat) : G4 := (ns.getD 0 0, ns.getD 1 0, ns.getD 2 0, chOf ns (ns.length / 3 - 1))
def okLen (ns : List Nat) : Bool := decide (3 ≤ ns.length) && decide (ns.length % 3 = 0)
def g4B (q : G4) : Bool := segB q.1 q.2.1 q.2.2.1 q.2.2.2
def rdG (t : ByteArray) : Option G4 := (rdN t).bind fun ns => if okLen ns && g4B (sgOf ns) then some (sgOf ns) else none
theorem rdG_none {t : ByteArray} (h : rdN t = none) : rdG t = none := by unfold rdG; rw [h]; rfl
theorem rdG_len {t : ByteArray} {ns : List Nat} (h : rdN t = some ns) (hl : okLen ns = false) : rdG t = none := by unfold rdG; rw [h]; simp [hl]
theorem rdG_no {t : ByteArray} {ns : List Nat} (h : rdN t = some ns) (hl : g4B (sgOf ns) = false) : rdG t = none := by unfold rdG; rw [h]; simp [hl]
theorem rdG_yes {t : ByteArray} {ns : List Nat} (h : rdN t = some ns) (hl : okLen ns = true) (hb : g4B (sgOf ns) = true) : rdG t = some (sgOf ns) := by unfold rdG; rw [h]; simp [hl, hb]
theorem owns_slC {w : World} {B : Nat} {cs : List Chg} {v : Value} (h : w.ownsRow B 202 3 v cs.length (chsV cs)) :
    ∃ A c, v = .slice A cs.length c ∧ Sl w B A 202 (cs.length * 3) (chAt cs) := by
  rcases h.2 with ⟨rfl, h0⟩ | ⟨g, cap, cur, rfl, hb, hg, hnc, _, hcs, htk⟩
  · exact ⟨none, 0, by rw [h0], fun hn => by omega⟩
  · refine ⟨_, cap, rfl, Sl.own ⟨cur, hg, by have := Nat.mul_le_mul_right 3 hnc; omega, fun i hi => ?_⟩ hb⟩
    have h1 : (cur.toList.take (cs.length * 3))[i]? = some (chAt cs i) := by rw [htk]; exact chsV_get cs i hi
    rw [List.getElem?_take_of_lt hi] at h1
    simpa using h1
theorem owns_nx3 {w w' : World} {B : Nat} {e : TypeId} {v : Value} {n : Nat} {xs : List Value} (h : w.ownsRow B e 3 v n xs) (hb : Nx w w') : w'.ownsRow B e 3 v n xs := by
  refine h.kept (row := none) ⟨hb.os, hb.tape, hb.output, hb.size, fun i hi _ => hb.block i hi⟩ ?_
  cases hv : v.ownBlock with
  | none => exact .inl rfl
  | some g => exact .inr (by simp)
/-- A row of changes does not lie in a segment's own block. -/
theorem owns_ne {w : World} {B g : Nat} {v : Value} {n : Nat} {xs : List Value} {cs : Array Value} (h : w.ownsRow B 202 3 v n xs) (hb : Box w g 130 cs) : some g ≠ v.ownBlock := by
  intro he
  rcases h.2 with ⟨rfl, _⟩ | ⟨g', cap, cur, rfl, _, hg, _⟩
  · simp [Value.ownBlock] at he
  · obtain rfl : g = g' := by simpa [Value.ownBlock] using he
    unfold Box at hb
    rw [hg] at hb
    injection hb with hb
    injection hb with _ hb
    exact absurd hb (by decide)
theorem owns_far {w : World} {B g : Nat} {v u : Value} {n i : Nat} {xs : List Value} {cs : Array Value} (h : w.ownsRow B 202 3 v n xs) (hb : Box w g 130 cs) : (w.setCell ⟨g, i, none⟩ u).ownsRow B 202 3 v n xs :=
  h.kept (row := some g) ⟨rfl, rfl, rfl, by simp [World.setCell], fun k hk hn => Below.heap_setCell _ _ _ _ (fun e => hn (by rw [e]))⟩ (.inr (fun e => owns_ne h hb e.symm))
theorem info_chg : (Tryz.prog.info? 202).map (fun i => (i.zero, i.size, i.bytes)) = some (some (.agg #[.int .i64 0, .int .i64 0, .int .i64 0]), 3, 24) := by kernel_rfl
end Go.Proofs.YtehahodomfbpjaaGreatDoor
