/-
  Texts of the proof, put together in their order: Nwx, Stm.
  Conditions: those of each.
-/
import Derived.Test.YteckhdkghfidiaaGreatDoorMc18
import Derived.Deep.AppendLies
/- Contracts of NewestSuper, as the program and as the model have it. Conditions: the disk can be read, and holds at most 1048576 elements of a kind; for the program: the package's errors are known, the library's variables MaxLen and errorType too. -/
namespace Go.Proofs.YteckhdkghfidiaaGreatDoor
set_option linter.unusedVariables false
set_option maxRecDepth 100000
open Go.RowKit

/-- What NewestSuper answers: a super, a slot, a code. -/
def newA (ss : List ByteArray) (ws : List (Int × ByteArray)) : U6 × Int × Int :=
  if diskB ss ws then (match newU (rdU (readP ss ws 0)) (rdU (readP ss ws 1)) with | none => (zU, 0, 19) | some (u, s) => (u, s, 0)) else (zU, 0, 1)
theorem newA_bad {ss : List ByteArray} {ws : List (Int × ByteArray)} (h : diskB ss ws = false) : newA ss ws = (zU, 0, 1) := by unfold newA; rw [h]; rfl
theorem newA_none {ss : List ByteArray} {ws : List (Int × ByteArray)} (h : diskB ss ws = true) (hn : newU (rdU (readP ss ws 0)) (rdU (readP ss ws 1)) = none) : newA ss ws = (zU, 0, 19) := by unfold newA; rw [h, hn]; rfl
theorem newA_yes {ss : List ByteArray} {ws : List (Int × ByteArray)} {u : U6} {s : Int} (h : diskB ss ws = true) (hn : newU (rdU (readP ss ws 0)) (rdU (readP ss ws 1)) = some (u, s)) : newA ss ws = (u, s, 0) := by unfold newA; rw [h, hn]; rfl
theorem newU_slot {o0 o1 : Option U6} {u : U6} {s : Int} (h : newU o0 o1 = some (u, s)) : s = 0 ∨ s = 1 := by
  unfold newU at h
  split at h
  · split at h <;> cases h
    · exact .inr rfl
    · exact .inl rfl
  · cases h; exact .inl rfl
  · cases h; exact .inr rfl
  · cases h
theorem newU_from {o0 o1 : Option U6} {u : U6} {s : Int} (h : newU o0 o1 = some (u, s)) : o0 = some u ∨ o1 = some u := by
  unfold newU at h
  split at h
  · split at h <;> cases h
    · exact .inr rfl
    · exact .inl rfl
  · cases h; exact .inl rfl
  · cases h; exact .inr rfl
  · cases h
theorem newA_len (ss : List ByteArray) (ws : List (Int × ByteArray)) : (newA ss ws).1.2.2.2.2.1.length ≤ 1048576 ∧ (newA ss ws).1.2.2.2.2.2.length ≤ 1048576 := by
  unfold newA
  split
  · split
    · simp [zU]
    · rename_i u s hu
      have key : ∀ t, rdU t = some u → u.2.2.2.2.1.length ≤ 1048576 ∧ u.2.2.2.2.2.length ≤ 1048576 := fun t ht => by
        obtain ⟨g, b, p, q, xs, ms⟩ := u
        have hs := superB_yes (rdU_super ht)
        have h1 := (tbB_yes hs.2.2.2.2.1).1
        have h2 := (msB_yes hs.2.2.2.2.2).1
        exact ⟨by show xs.length ≤ _; omega, by show ms.length ≤ _; omega⟩
      rcases newU_from hu with h | h
      · exact key _ h
      · exact key _ h
  · simp [zU]
def RetNW (w : World) (ss : List ByteArray) (ws : List (Int × ByteArray)) (e : Ending) (w' : World) : Prop :=
  Nx w w' ∧ ∃ A c A2 c2, e = .returned (.tuple #[vU (newA ss ws).1 A c A2 c2, .int .i64 (newA ss ws).2.1, .int .i64 (newA ss ws).2.2]) ∧ FitU w' w.heap.size (newA ss ws).1 A c A2
theorem RetNW.un {w w' : World} {ss : List ByteArray} {ws : List (Int × ByteArray)} {e : Ending} {g b p q s k : Int} {xs : List Int} {ms : List Mrk} (h : RetNW w ss ws e w') (hq : newA ss ws = ((g, b, p, q, xs, ms), s, k)) :
    Nx w w' ∧ ∃ A c A2 c2, e = .returned (.tuple #[.agg #[.int .i64 g, .int .i64 b, .int .i64 p, .int .i64 q, .slice A xs.length c, .slice A2 ms.length c2], .int .i64 s, .int .i64 k]) ∧ xs.length ≤ c ∧ SlI w' w.heap.size A xs ∧ SlM w' w.heap.size A2 ms := by
  unfold RetNW at h; rw [hq] at h; exact h
theorem RetNW.mk {w w' : World} {ss : List ByteArray} {ws : List (Int × ByteArray)} {g b p q s k : Int} {xs : List Int} {ms : List Mrk} {c c2 : Nat} {A A2 : Option Addr} (hq : newA ss ws = ((g, b, p, q, xs, ms), s, k)) (hc : xs.length ≤ c) (hs : SlI w' w.heap.size A xs) (hm : SlM w' w.heap.size A2 ms) (hn : Nx w w') :
    RetNW w ss ws (.returned (.tuple #[.agg #[.int .i64 g, .int .i64 b, .int .i64 p, .int .i64 q, .slice A xs.length c, .slice A2 ms.length c2], .int .i64 s, .int .i64 k])) w' := by
  unfold RetNW; rw [hq]; exact ⟨hn, A, c, A2, c2, rfl, hc, hs, hm⟩
theorem RetNW.zero {w w' : World} {ss : List ByteArray} {ws : List (Int × ByteArray)} {s k : Int} (hq : newA ss ws = (zU, s, k)) (hn : Nx w w') :
    RetNW w ss ws (.returned (.tuple #[.agg #[.int .i64 0, .int .i64 0, .int .i64 0, .int .i64 0, .slice none 0 0, .slice none 0 0], .int .i64 s, .int .i64 k])) w' := RetNW.mk (g := 0) (b := 0) (p := 0) (q := 0) (xs := []) (ms := []) hq (Nat.le_refl _) SlI.nil SlM.nil hn
set_option maxHeartbeats 1600000 in
theorem implNewestSuper_c (A A2 : Option Addr) (n c n2 c2 B : Nat) (ss : List ByteArray) (ws : List (Int × ByteArray)) (w : World) (a0 a1 : Addr) (h : Strs w B A n ss) (h2 : Wrs w B A2 n2 ws) (hB : B ≤ w.heap.size) (hn : n ≤ 1048576) (hn2 : n2 ≤ 1048576) (hE : Er w a0 a1) (hM : Mx w) (hEt : Et w) :
    Calls Tryz.prog 11 #[.agg #[.slice A n c, .slice A2 n2 c2]] w (RetNW w ss ws) := by
  have b0 : Box ((w.alloc (.cells #[.slice A n c, .slice A2 n2 c2] 35)).alloc (.cells #[.int .i64 0, .int .i64 0, .int .i64 0, .int .i64 0, .slice none 0 0, .slice none 0 0] 26)) (w.heap.size + 1) 26 #[.int .i64 0, .int .i64 0, .int .i64 0, .int .i64 0, .slice none 0 0, .slice none 0 0] := by have := Box.new (w.alloc (.cells #[.slice A n c, .slice A2 n2 c2] 35)) 26 #[.int .i64 0, .int .i64 0, .int .i64 0, .int .i64 0, .slice none 0 0, .slice none 0 0]; rwa [World.size_alloc] at this
  have e0 : Box ((w.alloc (.cells #[.slice A n c, .slice A2 n2 c2] 35)).alloc (.cells #[.int .i64 0, .int .i64 0, .int .i64 0, .int .i64 0, .slice none 0 0, .slice none 0 0] 26)) w.heap.size 35 #[.slice A n c, .slice A2 n2 c2] := (Box.new w _ _).alloc _
  have hx0 := ((Nx.refl w).alloc (.cells #[.slice A n c, .slice A2 n2 c2] 35)).alloc (.cells #[.int .i64 0, .int .i64 0, .int .i64 0, .int .i64 0, .slice none 0 0, .slice none 0 0] 26)
  go_enter Tryz.func11, Tryz.ntmps11
  go_wp2_with fail
  generalize (w.alloc (.cells #[.slice A n c, .slice A2 n2 c2] 35)).alloc (.cells #[.int .i64 0, .int .i64 0, .int .i64 0, .int .i64 0, .slice none 0 0, .slice none 0 0] 26) = W at *
  obtain ⟨gR, Hg⟩ : ∃ g, Hid (w.heap.size + 1 = g) := ⟨_, rfl⟩
  have hgR : w.heap.size ≤ gR := by have := Hg.out; omega
  rw [Hg.out] at b0 ⊢
  have hltW := b0.lt
  refine (isRight_c A A2 n c n2 c2 B ss ws _ (h.below hx0 hB) (h2.below hx0 hB) (Nat.le_trans hB hx0.size) hn hn2).mono ?_
  rintro e w1 ⟨rfl, hnx1⟩
  have b1 := b0.nx hnx1
  have e1 := e0.nx hnx1
  have hx1 := hx0.trans hnx1
  clear b0 e0 hx0
  cases hD : diskB ss ws with
  | false =>
    have HA := Lib.hid (newA_bad hD)
    clear hD
    obtain ⟨u0, u1, u2, u3, u4, u5⟩ := b1.d6
    have f0 := b1.frozen 0
    have f1 := b1.frozen 1
    have f2 := b1.frozen 2
    have f3 := b1.frozen 3
    have f4 := b1.frozen 4
    have f5 := b1.frozen 5
    go_wp2
    have qx := (put6_box b1 (.int .i64 0) (.int .i64 0) (.int .i64 0) (.int .i64 0) (.slice none 0 0) (.slice none 0 0))
    have hnf := (put6_nx hx1 (hgR) (.int .i64 0) (.int .i64 0) (.int .i64 0) (.int .i64 0) (.slice none 0 0) (.slice none 0 0))
    change bodyPost _ _ _ _ _ (put6 w1 gR (.int .i64 0) (.int .i64 0) (.int .i64 0) (.int .i64 0) (.slice none 0 0) (.slice none 0 0))
    change Box (put6 w1 gR (.int .i64 0) (.int .i64 0) (.int .i64 0) (.int .i64 0) (.slice none 0 0) (.slice none 0 0)) _ _ _ at qx
    generalize put6 w1 gR (.int .i64 0) (.int .i64 0) (.int .i64 0) (.int .i64 0) (.slice none 0 0) (.slice none 0 0) = Wf at *
    obtain ⟨cq0, cq1, cq2, cq3, cq4, cq5⟩ := qx.d6
    exact bodyPost_ret (v := .tuple #[.agg #[.int .i64 0, .int .i64 0, .int .i64 0, .int .i64 0, .slice none 0 0, .slice none 0 0], .int .i64 0, .int .i64 1]) (by simp [results, Tryz.results11, go_sem, cq0, cq1, cq2, cq3, cq4, cq5]) rfl (RetNW.zero HA.out hnf)
  | true =>
    have HD := Lib.hid hD
    have h1n : 1 < n := by have := (diskB_len64 hD).1; have := h.1; omega
    clear hD
    have z0 := e1.c0
    have z1 := e1.c1
    go_wp2_with fail
    refine (newestSuper_c A A2 n c n2 c2 B ss ws _ a0 a1 (h.below hx1 hB) (h2.below hx1 hB) (Nat.le_trans hB hx1.size) h1n hn hn2 (by have := readP_size HD.out 0; omega) (by have := readP_size HD.out 1; omega) (hE.nx hx1) (hM.nx hx1) (hEt.nx hx1)).mono ?_
    rintro e w2 ⟨hnx2, h1, h2'⟩
    have b2 := b1.nx hnx2
    have hx2 := hx1.trans hnx2
    have hltR := b1.lt
    have hlt2 := b2.lt
    clear b1 e1 z0 z1
    cases hu : newU (rdU (readP ss ws 0)) (rdU (readP ss ws 1)) with
    | none =>
      have HA := Lib.hid (newA_none HD.out hu)
      have he := h1 hu
      unfold slE at he
      subst he
      clear h1 h2' hu
      go_wp2_with fail
      have b3 := b2.alloc (.cells #[.int .i64 0, .int .i64 0, .int .i64 0, .int .i64 0, .slice none 0 0, .slice none 0 0] 26)
      have hx3 := hx2.alloc (.cells #[.int .i64 0, .int .i64 0, .int .i64 0, .int .i64 0, .slice none 0 0, .slice none 0 0] 26)
      change Calls _ _ _ (w2.alloc (.cells #[.int .i64 0, .int .i64 0, .int .i64 0, .int .i64 0, .slice none 0 0, .slice none 0 0] 26)) _
      generalize w2.alloc (.cells #[.int .i64 0, .int .i64 0, .int .i64 0, .int .i64 0, .slice none 0 0, .slice none 0 0] 26) = w3 at *
      refine (slotCode_c 1 19 _ (hEt.nx hx3)).mono ?_
      rintro e w4 ⟨rfl, hnx4⟩
      have b4 := b3.nx hnx4
      have hx4 := hx3.trans hnx4
      have hlt4 := b4.lt
      obtain ⟨u0, u1, u2, u3, u4, u5⟩ := b4.d6
      have f0 := b4.frozen 0
      have f1 := b4.frozen 1
      have f2 := b4.frozen 2
      have f3 := b4.frozen 3
      have f4 := b4.frozen 4
      have f5 := b4.frozen 5
      go_wp2
      have qx := (put6_box b4 (.int .i64 0) (.int .i64 0) (.int .i64 0) (.int .i64 0) (.slice none 0 0) (.slice none 0 0))
      have hnf := (put6_nx hx4 (hgR) (.int .i64 0) (.int .i64 0) (.int .i64 0) (.int .i64 0) (.slice none 0 0) (.slice none 0 0))
      change bodyPost _ _ _ _ _ (put6 w4 gR (.int .i64 0) (.int .i64 0) (.int .i64 0) (.int .i64 0) (.slice none 0 0) (.slice none 0 0))
      change Box (put6 w4 gR (.int .i64 0) (.int .i64 0) (.int .i64 0) (.int .i64 0) (.slice none 0 0) (.slice none 0 0)) _ _ _ at qx
      generalize put6 w4 gR (.int .i64 0) (.int .i64 0) (.int .i64 0) (.int .i64 0) (.slice none 0 0) (.slice none 0 0) = Wf at *
      obtain ⟨cq0, cq1, cq2, cq3, cq4, cq5⟩ := qx.d6
      exact bodyPost_ret (v := .tuple #[.agg #[.int .i64 0, .int .i64 0, .int .i64 0, .int .i64 0, .slice none 0 0, .slice none 0 0], .int .i64 0, .int .i64 19]) (by simp [results, Tryz.results11, go_sem, cq0, cq1, cq2, cq3, cq4, cq5]) rfl (RetNW.zero HA.out hnf)
    | some us =>
      obtain ⟨⟨g, b, p, q, xs, ms⟩, sl⟩ := us
      obtain ⟨Ax, cx, Am, cm, he, hcc, hS1, hM1⟩ := h2' _ _ hu
      replace he : e = .returned (.tuple #[.agg #[.int .i64 g, .int .i64 b, .int .i64 p, .int .i64 q, .slice Ax xs.length cx, .slice Am ms.length cm], .int .i64 sl, .nilIface]) := he
      replace hS1 : SlI w2 w1.heap.size Ax xs := hS1
      replace hM1 : SlM w2 w1.heap.size Am ms := hM1
      have HCC : Hid (xs.length ≤ cx) := Lib.hid hcc
      have HA := Lib.hid (newA_yes HD.out hu)
      have hsl := newU_slot hu
      have hd0 : decide (sl < 0) = false := decide_eq_false (by rcases hsl with rfl | rfl <;> omega)
      subst he
      clear h1 h2' hu hcc hsl
      obtain ⟨u0, u1, u2, u3, u4, u5⟩ := b2.d6
      have f0 := b2.frozen 0
      have f1 := b2.frozen 1
      have f2 := b2.frozen 2
      have f3 := b2.frozen 3
      have f4 := b2.frozen 4
      have f5 := b2.frozen 5
      go_wp2
      have qx := ((put6_box b2 (.int .i64 g) (.int .i64 b) (.int .i64 p) (.int .i64 q) (.slice Ax xs.length cx) (.slice Am ms.length cm)).alloc (.cells #[.int .i64 g, .int .i64 b, .int .i64 p, .int .i64 q, .slice Ax xs.length cx, .slice Am ms.length cm] 26))
      have hnf := ((put6_nx hx2 (hgR) (.int .i64 g) (.int .i64 b) (.int .i64 p) (.int .i64 q) (.slice Ax xs.length cx) (.slice Am ms.length cm)).alloc (.cells #[.int .i64 g, .int .i64 b, .int .i64 p, .int .i64 q, .slice Ax xs.length cx, .slice Am ms.length cm] 26))
      have hsf := ((hS1.pt6 hltR (.int .i64 g) (.int .i64 b) (.int .i64 p) (.int .i64 q) (.slice Ax xs.length cx) (.slice Am ms.length cm)).nx ((Nx.refl _).alloc (.cells #[.int .i64 g, .int .i64 b, .int .i64 p, .int .i64 q, .slice Ax xs.length cx, .slice Am ms.length cm] 26)))
      change Sl (World.alloc (put6 w2 gR (.int .i64 g) (.int .i64 b) (.int .i64 p) (.int .i64 q) (.slice Ax xs.length cx) (.slice Am ms.length cm)) (.cells #[.int .i64 g, .int .i64 b, .int .i64 p, .int .i64 q, .slice Ax xs.length cx, .slice Am ms.length cm] 26)) _ _ _ _ _ at hsf
      have hmf := ((hM1.pt6 hltR (.int .i64 g) (.int .i64 b) (.int .i64 p) (.int .i64 q) (.slice Ax xs.length cx) (.slice Am ms.length cm)).nx ((Nx.refl _).alloc (.cells #[.int .i64 g, .int .i64 b, .int .i64 p, .int .i64 q, .slice Ax xs.length cx, .slice Am ms.length cm] 26)))
      change Sl (World.alloc (put6 w2 gR (.int .i64 g) (.int .i64 b) (.int .i64 p) (.int .i64 q) (.slice Ax xs.length cx) (.slice Am ms.length cm)) (.cells #[.int .i64 g, .int .i64 b, .int .i64 p, .int .i64 q, .slice Ax xs.length cx, .slice Am ms.length cm] 26)) _ _ _ _ _ at hmf
      change bodyPost _ _ _ _ _ (World.alloc (put6 w2 gR (.int .i64 g) (.int .i64 b) (.int .i64 p) (.int .i64 q) (.slice Ax xs.length cx) (.slice Am ms.length cm)) (.cells #[.int .i64 g, .int .i64 b, .int .i64 p, .int .i64 q, .slice Ax xs.length cx, .slice Am ms.length cm] 26))
      change Box (World.alloc (put6 w2 gR (.int .i64 g) (.int .i64 b) (.int .i64 p) (.int .i64 q) (.slice Ax xs.length cx) (.slice Am ms.length cm)) (.cells #[.int .i64 g, .int .i64 b, .int .i64 p, .int .i64 q, .slice Ax xs.length cx, .slice Am ms.length cm] 26)) _ _ _ at qx
      generalize World.alloc (put6 w2 gR (.int .i64 g) (.int .i64 b) (.int .i64 p) (.int .i64 q) (.slice Ax xs.length cx) (.slice Am ms.length cm)) (.cells #[.int .i64 g, .int .i64 b, .int .i64 p, .int .i64 q, .slice Ax xs.length cx, .slice Am ms.length cm] 26) = Wf at *
      obtain ⟨hmf0, hmf1, hmf2, hmf3, hmf4, hmf5⟩ := qx.d6
      exact bodyPost_ret (v := .tuple #[.agg #[.int .i64 g, .int .i64 b, .int .i64 p, .int .i64 q, .slice Ax xs.length cx, .slice Am ms.length cm], .int .i64 sl, .int .i64 0]) (by simp [results, Tryz.results11, go_sem, hmf0, hmf1, hmf2, hmf3, hmf4, hmf5]) rfl (RetNW.mk HA.out HCC.out (hsf.low (by omega)) (hmf.low (by omega)) hnf)
set_option maxHeartbeats 1600000 in
theorem specNewestSuper_c (A A2 : Option Addr) (n c n2 c2 B : Nat) (ss : List ByteArray) (ws : List (Int × ByteArray)) (w : World) (h : Strs w B A n ss) (h2 : Wrs w B A2 n2 ws) (hB : B ≤ w.heap.size) (hn : n ≤ 1048576) (hn2 : n2 ≤ 1048576) :
    Calls Tryz.prog 19 #[.agg #[.slice A n c, .slice A2 n2 c2]] w (RetNW w ss ws) := by
  have b0 : Box ((w.alloc (.cells #[.slice A n c, .slice A2 n2 c2] 35)).alloc (.cells #[.int .i64 0, .int .i64 0, .int .i64 0, .int .i64 0, .slice none 0 0, .slice none 0 0] 26)) (w.heap.size + 1) 26 #[.int .i64 0, .int .i64 0, .int .i64 0, .int .i64 0, .slice none 0 0, .slice none 0 0] := by have := Box.new (w.alloc (.cells #[.slice A n c, .slice A2 n2 c2] 35)) 26 #[.int .i64 0, .int .i64 0, .int .i64 0, .int .i64 0, .slice none 0 0, .slice none 0 0]; rwa [World.size_alloc] at this
  have e0 : Box ((w.alloc (.cells #[.slice A n c, .slice A2 n2 c2] 35)).alloc (.cells #[.int .i64 0, .int .i64 0, .int .i64 0, .int .i64 0, .slice none 0 0, .slice none 0 0] 26)) w.heap.size 35 #[.slice A n c, .slice A2 n2 c2] := (Box.new w _ _).alloc _
  have hx0 := ((Nx.refl w).alloc (.cells #[.slice A n c, .slice A2 n2 c2] 35)).alloc (.cells #[.int .i64 0, .int .i64 0, .int .i64 0, .int .i64 0, .slice none 0 0, .slice none 0 0] 26)
  go_enter Tryz.func19, Tryz.ntmps19
  go_wp2_with fail
  generalize (w.alloc (.cells #[.slice A n c, .slice A2 n2 c2] 35)).alloc (.cells #[.int .i64 0, .int .i64 0, .int .i64 0, .int .i64 0, .slice none 0 0, .slice none 0 0] 26) = W at *
  obtain ⟨gR, Hg⟩ : ∃ g, Hid (w.heap.size + 1 = g) := ⟨_, rfl⟩
  have hgR : w.heap.size ≤ gR := by have := Hg.out; omega
  rw [Hg.out] at b0 ⊢
  have hltW := b0.lt
  refine (specDiskOK_c A A2 n c n2 c2 B ss ws _ (h.below hx0 hB) (h2.below hx0 hB) (Nat.le_trans hB hx0.size) hn hn2).mono ?_
  rintro e w1 ⟨rfl, hnx1⟩
  have b1 := b0.nx hnx1
  have e1 := e0.nx hnx1
  have hx1 := hx0.trans hnx1
  clear b0 e0 hx0
  cases hD : diskB ss ws with
  | false =>
    have HA := Lib.hid (newA_bad hD)
    clear hD
    obtain ⟨u0, u1, u2, u3, u4, u5⟩ := b1.d6
    have f0 := b1.frozen 0
    have f1 := b1.frozen 1
    have f2 := b1.frozen 2
    have f3 := b1.frozen 3
    have f4 := b1.frozen 4
    have f5 := b1.frozen 5
    go_wp2
    have qx := (put6_box b1 (.int .i64 0) (.int .i64 0) (.int .i64 0) (.int .i64 0) (.slice none 0 0) (.slice none 0 0))
    have hnf := (put6_nx hx1 (hgR) (.int .i64 0) (.int .i64 0) (.int .i64 0) (.int .i64 0) (.slice none 0 0) (.slice none 0 0))
    change bodyPost _ _ _ _ _ (put6 w1 gR (.int .i64 0) (.int .i64 0) (.int .i64 0) (.int .i64 0) (.slice none 0 0) (.slice none 0 0))
    change Box (put6 w1 gR (.int .i64 0) (.int .i64 0) (.int .i64 0) (.int .i64 0) (.slice none 0 0) (.slice none 0 0)) _ _ _ at qx
    generalize put6 w1 gR (.int .i64 0) (.int .i64 0) (.int .i64 0) (.int .i64 0) (.slice none 0 0) (.slice none 0 0) = Wf at *
    obtain ⟨cq0, cq1, cq2, cq3, cq4, cq5⟩ := qx.d6
    exact bodyPost_ret (v := .tuple #[.agg #[.int .i64 0, .int .i64 0, .int .i64 0, .int .i64 0, .slice none 0 0, .slice none 0 0], .int .i64 0, .int .i64 1]) (by simp [results, Tryz.results19, go_sem, cq0, cq1, cq2, cq3, cq4, cq5]) rfl (RetNW.zero HA.out hnf)
  | true =>
    have HD := Lib.hid hD
    have h1n : 1 < n := by have := (diskB_len64 hD).1; have := h.1; omega
    clear hD
    have z0 := e1.c0
    have z1 := e1.c1
    go_wp2_with fail
    refine (l04Newest_c A A2 n c n2 c2 B ss ws _ (h.below hx1 hB) (h2.below hx1 hB) (Nat.le_trans hB hx1.size) h1n hn hn2 (by have := readP_size HD.out 0; omega) (by have := readP_size HD.out 1; omega)).mono ?_
    rintro e w2 ⟨hnx2, h1, h2'⟩
    have b2 := b1.nx hnx2
    have hx2 := hx1.trans hnx2
    have hltR := b1.lt
    have hlt2 := b2.lt
    clear b1 e1 z0 z1
    cases hu : newU (rdU (readP ss ws 0)) (rdU (readP ss ws 1)) with
    | none =>
      have HA := Lib.hid (newA_none HD.out hu)
      obtain rfl := h1 hu
      clear h1 h2' hu
      obtain ⟨u0, u1, u2, u3, u4, u5⟩ := b2.d6
      have f0 := b2.frozen 0
      have f1 := b2.frozen 1
      have f2 := b2.frozen 2
      have f3 := b2.frozen 3
      have f4 := b2.frozen 4
      have f5 := b2.frozen 5
      go_wp2
      have qx := ((put6_box b2 (.int .i64 0) (.int .i64 0) (.int .i64 0) (.int .i64 0) (.slice none 0 0) (.slice none 0 0)).alloc (.cells #[.int .i64 0, .int .i64 0, .int .i64 0, .int .i64 0, .slice none 0 0, .slice none 0 0] 26))
      have hnf := ((put6_nx hx2 (hgR) (.int .i64 0) (.int .i64 0) (.int .i64 0) (.int .i64 0) (.slice none 0 0) (.slice none 0 0)).alloc (.cells #[.int .i64 0, .int .i64 0, .int .i64 0, .int .i64 0, .slice none 0 0, .slice none 0 0] 26))
      change bodyPost _ _ _ _ _ (World.alloc (put6 w2 gR (.int .i64 0) (.int .i64 0) (.int .i64 0) (.int .i64 0) (.slice none 0 0) (.slice none 0 0)) (.cells #[.int .i64 0, .int .i64 0, .int .i64 0, .int .i64 0, .slice none 0 0, .slice none 0 0] 26))
      change Box (World.alloc (put6 w2 gR (.int .i64 0) (.int .i64 0) (.int .i64 0) (.int .i64 0) (.slice none 0 0) (.slice none 0 0)) (.cells #[.int .i64 0, .int .i64 0, .int .i64 0, .int .i64 0, .slice none 0 0, .slice none 0 0] 26)) _ _ _ at qx
      generalize World.alloc (put6 w2 gR (.int .i64 0) (.int .i64 0) (.int .i64 0) (.int .i64 0) (.slice none 0 0) (.slice none 0 0)) (.cells #[.int .i64 0, .int .i64 0, .int .i64 0, .int .i64 0, .slice none 0 0, .slice none 0 0] 26) = Wf at *
      obtain ⟨cq0, cq1, cq2, cq3, cq4, cq5⟩ := qx.d6
      exact bodyPost_ret (v := .tuple #[.agg #[.int .i64 0, .int .i64 0, .int .i64 0, .int .i64 0, .slice none 0 0, .slice none 0 0], .int .i64 0, .int .i64 19]) (by simp [results, Tryz.results19, go_sem, cq0, cq1, cq2, cq3, cq4, cq5]) rfl (RetNW.zero HA.out hnf)
    | some us =>
      obtain ⟨⟨g, b, p, q, xs, ms⟩, sl⟩ := us
      obtain ⟨Ax, cx, Am, cm, he, hcc, hS1, hM1⟩ := h2' _ _ hu
      replace he : e = .returned (.tuple #[.agg #[.int .i64 g, .int .i64 b, .int .i64 p, .int .i64 q, .slice Ax xs.length cx, .slice Am ms.length cm], .int .i64 sl]) := he
      replace hS1 : SlI w2 w1.heap.size Ax xs := hS1
      replace hM1 : SlM w2 w1.heap.size Am ms := hM1
      have HCC : Hid (xs.length ≤ cx) := Lib.hid hcc
      have HA := Lib.hid (newA_yes HD.out hu)
      have hsl := newU_slot hu
      have hd0 : decide (sl < 0) = false := decide_eq_false (by rcases hsl with rfl | rfl <;> omega)
      subst he
      clear h1 h2' hu hcc hsl
      obtain ⟨u0, u1, u2, u3, u4, u5⟩ := b2.d6
      have f0 := b2.frozen 0
      have f1 := b2.frozen 1
      have f2 := b2.frozen 2
      have f3 := b2.frozen 3
      have f4 := b2.frozen 4
      have f5 := b2.frozen 5
      go_wp2
      have qx := ((put6_box b2 (.int .i64 g) (.int .i64 b) (.int .i64 p) (.int .i64 q) (.slice Ax xs.length cx) (.slice Am ms.length cm)).alloc (.cells #[.int .i64 g, .int .i64 b, .int .i64 p, .int .i64 q, .slice Ax xs.length cx, .slice Am ms.length cm] 26))
      have hnf := ((put6_nx hx2 (hgR) (.int .i64 g) (.int .i64 b) (.int .i64 p) (.int .i64 q) (.slice Ax xs.length cx) (.slice Am ms.length cm)).alloc (.cells #[.int .i64 g, .int .i64 b, .int .i64 p, .int .i64 q, .slice Ax xs.length cx, .slice Am ms.length cm] 26))
      have hsf := ((hS1.pt6 hltR (.int .i64 g) (.int .i64 b) (.int .i64 p) (.int .i64 q) (.slice Ax xs.length cx) (.slice Am ms.length cm)).nx ((Nx.refl _).alloc (.cells #[.int .i64 g, .int .i64 b, .int .i64 p, .int .i64 q, .slice Ax xs.length cx, .slice Am ms.length cm] 26)))
      change Sl (World.alloc (put6 w2 gR (.int .i64 g) (.int .i64 b) (.int .i64 p) (.int .i64 q) (.slice Ax xs.length cx) (.slice Am ms.length cm)) (.cells #[.int .i64 g, .int .i64 b, .int .i64 p, .int .i64 q, .slice Ax xs.length cx, .slice Am ms.length cm] 26)) _ _ _ _ _ at hsf
      have hmf := ((hM1.pt6 hltR (.int .i64 g) (.int .i64 b) (.int .i64 p) (.int .i64 q) (.slice Ax xs.length cx) (.slice Am ms.length cm)).nx ((Nx.refl _).alloc (.cells #[.int .i64 g, .int .i64 b, .int .i64 p, .int .i64 q, .slice Ax xs.length cx, .slice Am ms.length cm] 26)))
      change Sl (World.alloc (put6 w2 gR (.int .i64 g) (.int .i64 b) (.int .i64 p) (.int .i64 q) (.slice Ax xs.length cx) (.slice Am ms.length cm)) (.cells #[.int .i64 g, .int .i64 b, .int .i64 p, .int .i64 q, .slice Ax xs.length cx, .slice Am ms.length cm] 26)) _ _ _ _ _ at hmf
      change bodyPost _ _ _ _ _ (World.alloc (put6 w2 gR (.int .i64 g) (.int .i64 b) (.int .i64 p) (.int .i64 q) (.slice Ax xs.length cx) (.slice Am ms.length cm)) (.cells #[.int .i64 g, .int .i64 b, .int .i64 p, .int .i64 q, .slice Ax xs.length cx, .slice Am ms.length cm] 26))
      change Box (World.alloc (put6 w2 gR (.int .i64 g) (.int .i64 b) (.int .i64 p) (.int .i64 q) (.slice Ax xs.length cx) (.slice Am ms.length cm)) (.cells #[.int .i64 g, .int .i64 b, .int .i64 p, .int .i64 q, .slice Ax xs.length cx, .slice Am ms.length cm] 26)) _ _ _ at qx
      generalize World.alloc (put6 w2 gR (.int .i64 g) (.int .i64 b) (.int .i64 p) (.int .i64 q) (.slice Ax xs.length cx) (.slice Am ms.length cm)) (.cells #[.int .i64 g, .int .i64 b, .int .i64 p, .int .i64 q, .slice Ax xs.length cx, .slice Am ms.length cm] 26) = Wf at *
      obtain ⟨hmf0, hmf1, hmf2, hmf3, hmf4, hmf5⟩ := qx.d6
      exact bodyPost_ret (v := .tuple #[.agg #[.int .i64 g, .int .i64 b, .int .i64 p, .int .i64 q, .slice Ax xs.length cx, .slice Am ms.length cm], .int .i64 sl, .int .i64 0]) (by simp [results, Tryz.results19, go_sem, hmf0, hmf1, hmf2, hmf3, hmf4, hmf5]) rfl (RetNW.mk HA.out HCC.out (hsf.low (by omega)) (hmf.low (by omega)) hnf)
end Go.Proofs.YteckhdkghfidiaaGreatDoor
/- The model's text of a super: l00Join, l04Text, SuperText. Conditions: what is read can be read. -/
namespace Go.Proofs.YteckhdkghfidiaaGreatDoor
set_option linter.unusedVariables false
set_option maxRecDepth 100000
open Go.RowKit

theorem jn_step0 {ws : List ByteArray} {s x : ByteArray} (h : s = jn (ws.take 0)) (hk : 0 < ws.length) (hx : ws.getD 0 ByteArray.empty = x) : s ++ x = jn (ws.take (0 + 1)) := by
  rw [jn_take hk, List.take_zero, List.nil_append, jn_one, hx, h, List.take_zero, jn_nil]
  exact ba_ext_ (by rw [ba_app]; rfl)
where ba_ext_ {a b : ByteArray} (h : a.data.toList = b.data.toList) : a = b := by rw [ba_eq h]
theorem jn_stepS {ws : List ByteArray} {s x : ByteArray} {k : Nat} (h : s = jn (ws.take k)) (hp : 0 < k) (hk : k < ws.length) (hx : ws.getD k ByteArray.empty = x) : s ++ ⟨#[44]⟩ ++ x = jn (ws.take (k + 1)) := by
  rw [jn_take hk, jn_snoc (by rw [List.length_take]; omega), hx, h]
set_option maxHeartbeats 1000000 in
theorem l00Join_c (A : Option Addr) (c B : Nat) (ws : List ByteArray) (w : World) (h : Row w B A ws.length (wdAt ws)) (hB : B ≤ w.heap.size) (hn : ws.length ≤ 4) (hw : ∀ k, (ws.getD k ByteArray.empty).size ≤ 13) :
    Calls Tryz.prog 86 #[.slice A ws.length c, .string ⟨#[44]⟩] w fun e w' => e = .returned (.string (jn ws)) ∧ Nx w w' := by
  go_enter Tryz.func86, Tryz.ntmps86
  go_wp2
  go_loopw [5, 6] (fun o i wr => ∃ (k : Nat) (s : ByteArray), k ≤ ws.length ∧ i = .int .i64 k ∧ o = .string s ∧ s.size ≤ 56 ∧ Hid (s = jn (ws.take k)) ∧ Nx w wr) (fun _ i _ => ws.length - (intOf i).toNat)
  case atStart => exact ⟨0, ⟨#[]⟩, Nat.zero_le _, rfl, rfl, by decide, Lib.hid rfl, Nx.refl _⟩
  case round =>
    obtain ⟨k, s, hk, rfl, rfl, hs, HS, hnx⟩ := hrel
    by_cases hlt : k < ws.length
    · obtain ⟨b, off, rfl, hb, hc0⟩ := (h.below hnx hB) (by omega)
      have hc := hc0 k hlt
      clear hc0
      unfold wdAt at hc
      have hx13 := hw k
      have HJ := Lib.hid (jn_size (k + 1) ws hw (by omega))
      obtain ⟨x, Hx⟩ : ∃ x, Hid (ws.getD k ByteArray.empty = x) := ⟨_, rfl⟩
      rw [Hx.out] at hc hx13
      rcases Nat.eq_zero_or_pos k with hz | hp
      · subst hz
        have HF := Lib.hid (jn_step0 HS.out hlt Hx.out)
        rw [← HF.out] at HJ
        rw [Nat.add_zero] at hc
        go_wp2
        go_roundw
        case rel => exact ⟨0 + 1, _, by omega, by go_num, rfl, by have := HJ.out; omega, HF, hnx⟩
        case measure => simp [intOf]; omega
      · have hd : decide (0 < (k : Int)) = true := by simp; omega
        have HF := Lib.hid (jn_stepS HS.out hp hlt Hx.out)
        rw [← HF.out] at HJ
        have h44 : (⟨#[44]⟩ : ByteArray).size = 1 := rfl
        go_wp2
        go_roundw
        case rel => exact ⟨k + 1, _, by omega, by go_num, rfl, by have := HJ.out; omega, HF, hnx⟩
        case measure => simp [intOf]; omega
    · obtain rfl : k = ws.length := by omega
      have HR := Lib.hid (show s = jn ws by rw [HS.out, List.take_length])
      go_wp2
      go_ret
      exact ⟨ret_str HR.out, hnx⟩

theorem addS_run {o : Oper} {a : Act} {x y : Operand} {s r : ByteArray} {W : World} (ho : o.op = .binOp .add 9 x y 9) (hx : a.eval x = .string s) (hy : a.eval y = .string r) (h : s.size + r.size ≤ 1000000) :
    (execOp a.eval o).run Tryz.prog W = .ok (.value (.string (s ++ r))) W := by
  have h1 := run_string_add_sum (P := Tryz.prog) W s r (by omega)
  unfold execOp
  simp only [ho, hx, hy, binOp_string_add]
  simp [h1, go_sem]
theorem mkW_of (nm : ByteArray) (q : Nat) : nm ++ ⟨#[61]⟩ ++ ⟨(digs q).toArray⟩ = mkW (nm, (q : Int)) := by
  unfold mkW; simp
theorem wV_succ {ms : List Mrk} {k : Nat} (hk : k < ms.length) {q : Mrk} (hq : ms.getD k mrZ = q) : wV (wds (ms.take (k + 1))) = wV (wds (ms.take k)) ++ [.string (mkW q)] := by
  rw [← wds_take, ← wds_take, jn_take (by rw [wds_len]; exact hk), wds_at hk, hq]
  unfold wV; simp
theorem wdsT_len {ms : List Mrk} {k : Nat} (hk : k ≤ ms.length) : (wds (ms.take k)).length = k := by rw [wds_len, List.length_take]; omega
set_option maxHeartbeats 8000000 in
theorem l04Text_c (g b p t : Int) (A A2 : Option Addr) (c c2 B : Nat) (xs : List Int) (ms : List Mrk) (w : World) (h : Ins w B A xs) (h2 : Mks w B A2 ms) (hB : B ≤ w.heap.size) (hok : superB g b p t xs ms = true) :
    Calls Tryz.prog 34 #[.agg #[.int .i64 g, .int .i64 b, .int .i64 p, .int .i64 t, .slice A xs.length c, .slice A2 ms.length c2]] w fun e w' => e = .returned (.string (sealS (numsS (supN g b p t xs) ++ ⟨#[124]⟩ ++ jn (wds ms)))) ∧ Nx w w' := by
  have HK := Lib.hid hok
  have hl4 : ms.length ≤ 4 := (msB_yes (superB_yes hok).2.2.2.2.2).1
  have hl20 : xs.length ≤ 20 := (tbB_yes (superB_yes hok).2.2.2.2.1).1
  have HM := Lib.hid (superB_yes hok).2.2.2.2.2
  clear hok
  obtain ⟨i0, hi0, hz0, hz1, hz2⟩ := info_parts infoS
  go_enter Tryz.func34, Tryz.ntmps34
  have b0 := Box.new w 26 #[.int .i64 g, .int .i64 b, .int .i64 p, .int .i64 t, .slice A xs.length c, .slice A2 ms.length c2]
  have hx0 := (Nx.refl w).alloc (.cells #[.int .i64 g, .int .i64 b, .int .i64 p, .int .i64 t, .slice A xs.length c, .slice A2 ms.length c2] 26)
  have b1 := b0.alloc (.cells #[.int .i64 g, .int .i64 b, .int .i64 p, .int .i64 t] 3)
  have hx1 := hx0.alloc (.cells #[.int .i64 g, .int .i64 b, .int .i64 p, .int .i64 t] 3)
  have hR1 := RowI.new4 (w.alloc (.cells #[.int .i64 g, .int .i64 b, .int .i64 p, .int .i64 t, .slice A xs.length c, .slice A2 ms.length c2] 26)) (B := w.heap.size) g b p t (by simp)
  simp only [World.size_alloc] at hR1
  have HX1 := Lib.hid hx1
  have HB1 := Lib.hid b1
  have HR1 := Lib.hid hR1
  clear hx1 b1 hR1 hx0 b0
  go_wp2_with (at_builtin; refine wpList_app4I rfl _ _ rfl w.heap.size (w.heap.size + 1) A c [g, b, p, t] xs rfl rfl rfl HR1.out (h.below HX1.out hB) (by omega) HX1.out.size ?_)
  intro A' k' w2 hR2 hG2
  have hx2 := hG2.nx w HX1.out (Nat.le_refl _)
  have b2 := hG2.box _ _ _ (by decide) HB1.out
  clear HX1 HB1 HR1 hG2
  have HR2 : Hid (RowI w2 w.heap.size (.slice A' (xs.length + 4) k') (supL g b p t xs)) := Lib.hid hR2
  clear hR2
  go_wp2_with fail
  have hw0 := RowW.new w2 (B := w2.heap.size) (Nat.le_refl _)
  have hn0 := (Nx.refl w2).alloc (.cells #[] 9)
  go_loopw [4, 5] (fun s i wr => ∃ (k : Nat) (v : Value), k ≤ ms.length ∧ i = .int .i64 k ∧ v = s ∧ RowW wr w2.heap.size v (wds (ms.take k)) ∧ Nx w2 wr) (fun _ i _ => ms.length - (intOf i).toNat)
  case atStart => exact ⟨0, _, Nat.zero_le _, rfl, rfl, hw0, hn0⟩
  case round =>
    obtain ⟨k, v, hk, rfl, rfl, hw, hnx⟩ := hrel
    obtain ⟨_, _, _, _, _, c5⟩ := (b2.nx hnx).d6
    clear hw0 hn0
    by_cases hlt : k < ms.length
    · obtain ⟨bb, off, rfl, hb, k0, k1⟩ := (h2.below (hx2.trans hnx) hB).at_ hlt
      have hms := msB_at HM.out hlt
      obtain ⟨⟨q0, q1'⟩, Hq'⟩ : ∃ q, Hid (ms.getD k mrZ = q) := ⟨_, rfl⟩
      rw [Hq'.out] at k0 k1 hms
      obtain ⟨q1, Hq1⟩ : ∃ q : Nat, Hid (q1' = (q : Int)) := ⟨q1'.toNat, Lib.hid (by have := hms.2.1; simp only at this; omega)⟩
      rw [Hq1.out] at k1 hms Hq'
      obtain ⟨hs6, _, hq6⟩ := hms
      simp only at k0 k1 hs6 hq6
      have Hq : Hid (ms.getD k mrZ = (q0, (q1 : Int))) := Hq'
      have hbw : bb < w2.heap.size := by have := hx2.size; omega
      have hbv : w.heap.size < w2.heap.size := b2.lt
      have hq7 : q1 ≤ 999999 := by omega
      have hlk : (wds (ms.take k)).length = k := wdsT_len hk
      have hwk : wr.ownsRow w2.heap.size 9 1 v k (wV (wds (ms.take k))) := by have := hw; unfold RowW at this; rwa [hlk] at this
      have h61 : (⟨#[61]⟩ : ByteArray).size = 1 := rfl
      clear hw hlk Hq1 hq6
      go_wp2_with fail
      refine wp_region_lex [false, false, false, false, false, false, false, false, false, false, false, false, false, false, true, false, true, true, false] (fun w' => w'.cell? ⟨w.heap.size, 5, none⟩ = some (.slice (some ⟨bb, off, none⟩) ms.length c2) ∧ w'.cell? ⟨bb, off + k * 2, none⟩ = some (.string q0) ∧ w'.cell? ⟨bb, off + k * 2 + 1, none⟩ = some (.int .i64 q1)) (by kernel_rfl) (by kernel_rfl) rfl (by kernel_rfl) (fun _ _ d _ _ h => by cases d <;> exact h) (by exact ⟨c5, k0, k1⟩) ?_
      iterate 7 (refine HL.take (v := ?_) (by rfl) ?_ ?_; rotate_left; (· (intro w hSw; (try dsimp only at hSw); go_simp; try with_reducible rfl)); (try simp only [Act.put, List.setIfInBounds_toArray, List.set_cons_zero, List.set_cons_succ]))
      refine HL.take (v := .string (q0 ++ ⟨#[61]⟩)) (by rfl) (fun W _ => addS_run rfl rfl rfl (by omega)) ?_
      try simp only [Act.put, List.setIfInBounds_toArray, List.set_cons_zero, List.set_cons_succ]
      iterate 6 (refine HL.take (v := ?_) (by rfl) ?_ ?_; rotate_left; (· (intro w hSw; (try dsimp only at hSw); go_simp; try with_reducible rfl)); (try simp only [Act.put, List.setIfInBounds_toArray, List.set_cons_zero, List.set_cons_succ]))
      refine HL.call (by rfl) (fun K hK => ?_)
      go_simp
      refine (l00Digits_c q1 _ hq7).mono ?_
      rintro e wd ⟨rfl, hnd⟩
      have hxd := hnx.trans (Nx.drew_r hnd)
      have hwd := (show RowW wr w2.heap.size v (wds (ms.take k)) by unfold RowW; rw [wdsT_len hk]; exact hwk).nx (Nx.drew_r hnd)
      have HW := Lib.hid (mkW_of q0 q1)
      obtain ⟨d, Hd⟩ : ∃ d : ByteArray, Hid ((⟨(digs q1).toArray⟩ : ByteArray) = d) := ⟨_, rfl⟩
      have hd6 : d.size ≤ 6 := by rw [← Hd.out]; have := (digs_len hq7).2; simp [ByteArray.size]; omega
      rw [Hd.out] at HW ⊢
      go_wp2_with fail
      refine hK.out _ _ (by exact ⟨(hxd.of_two' hnx ⟨w.heap.size, 5, none⟩ hbv).trans c5, (hxd.of_two' hnx ⟨bb, off + k * 2, none⟩ hbw).trans k0, (hxd.of_two' hnx ⟨bb, off + k * 2 + 1, none⟩ hbw).trans k1⟩) ?_
      clear hK K
      try simp only [Act.put, List.setIfInBounds_toArray, List.set_cons_zero, List.set_cons_succ]
      refine HL.take (v := .string ((q0 ++ ⟨#[61]⟩) ++ d)) (by rfl) (fun W _ => addS_run rfl rfl rfl (by rw [ByteArray.size_append]; omega)) ?_
      try simp only [Act.put, List.setIfInBounds_toArray, List.set_cons_zero, List.set_cons_succ]
      rw [HW.out]
      refine HL.call (by rfl) (fun K hK => ?_)
      go_simp
      change K _ (wd.alloc _)
      have bz := Box.new wd 9 #[.string (mkW (q0, (q1 : Int)))]
      have hwz := hwd.nx ((Nx.refl wd).alloc (.cells #[.string (mkW (q0, (q1 : Int)))] 9))
      have hxz := hxd.alloc (.cells #[.string (mkW (q0, (q1 : Int)))] 9)
      refine hK.out _ _ (by exact ⟨(hxz.of_two' hnx ⟨w.heap.size, 5, none⟩ hbv).trans c5, (hxz.of_two' hnx ⟨bb, off + k * 2, none⟩ hbw).trans k0, (hxz.of_two' hnx ⟨bb, off + k * 2 + 1, none⟩ hbw).trans k1⟩) ?_
      generalize wd.alloc (.cells #[.string (mkW (q0, (q1 : Int)))] 9) = wz at *
      clear hK K
      try simp only [Act.put, List.setIfInBounds_toArray, List.set_cons_zero, List.set_cons_succ]
      refine HL.call (by rfl) (fun K hK => ?_)
      have hwz' : wz.ownsRow w2.heap.size 9 1 v k (wV (wds (ms.take k))) := by have := hwz; unfold RowW at this; rwa [wdsT_len hk] at this
      refine wp_append_own wz _ _ 32 rfl w2.heap.size 9 i0 _ 1 16 Tryz.underlying32 hi0 hz0 hz1 hz2 rfl (by omega) v k _ rfl hwz' ⟨wd.heap.size, 0, none⟩ 1 1 [.string (mkW (q0, (q1 : Int)))] rfl rfl (fun j u hj => ?_) (fun u hu => ?_) (by unfold maxLen; omega) (by omega) (by have := hxz.size; omega) ?_
      · rw [addr_add', Nat.zero_add, bz.cell j, ← hj]
        rcases j with _ | j <;> simp
      · simp only [List.mem_cons, List.not_mem_nil, or_false] at hu; rcases hu with rfl; rfl
      intro v2 w3 hw3 hg3 _
      have hx3 : Nx w2 w3 := Below.grown hxz hg3 hxz.size (fun k hk => (hwz'.lt k hk).1)
      refine hK.out _ _ (by exact ⟨(hx3.of_two' hnx ⟨w.heap.size, 5, none⟩ hbv).trans c5, (hx3.of_two' hnx ⟨bb, off + k * 2, none⟩ hbw).trans k0, (hx3.of_two' hnx ⟨bb, off + k * 2 + 1, none⟩ hbw).trans k1⟩) ?_
      clear hK K
      try simp only [Act.put, List.setIfInBounds_toArray, List.set_cons_zero, List.set_cons_succ]
      iterate 1 (refine HL.take (v := ?_) (by rfl) ?_ ?_; rotate_left; (· (intro w hSw; (try dsimp only at hSw); go_simp; try with_reducible rfl)); (try simp only [Act.put, List.setIfInBounds_toArray, List.set_cons_zero, List.set_cons_succ]))
      refine HL.done ?_
      go_wp2
      go_roundw
      case rel =>
        refine ⟨k + 1, _, by omega, by go_num, rfl, ?_, hx3⟩
        unfold RowW
        rw [wV_succ hlt Hq.out, wdsT_len (by omega)]
        exact hw3
      case measure => simp [intOf]; omega
    · obtain rfl : k = ms.length := by omega
      rw [List.take_length] at hw
      obtain ⟨A3, c3, rfl, hS3⟩ := hw.sl
      rw [wds_len] at hS3
      obtain ⟨A5, c5', he5, hS5⟩ := HR2.out.sl
      rw [supL_len] at he5 hS5
      injection he5 with e5 _ _
      subst e5
      have hrow := supN_row HK.out (supN_len g b p t xs).symm (hS5.nx hnx).row
      have Hl := Lib.hid (supN_len g b p t xs)
      have Hwl := Lib.hid (wds_len ms)
      have hS3r : Row wr wr.heap.size A3 (wds ms).length (wdAt (wds ms)) := by rw [wds_len]; exact hS3.row
      have hc5 : ((xs.length + 4 : Nat) : Int) = (xs.length : Int) + 4 := by omega
      rw [← Hl.out]
      go_wp2_with fail
      refine (l02Join_c A' _ _ (supN g b p t xs) _ hrow (Nat.le_refl _) (supN_all HK.out) (by have := Hl.out; omega)).mono ?_
      obtain ⟨nS, HnS⟩ : ∃ s, Hid (numsS (supN g b p t xs) = s) := ⟨_, rfl⟩
      rintro e w4 ⟨he, hnx4⟩
      have he' : e = .returned (.string nS) := he.trans (by rw [← HnS.out]; rfl)
      subst he'
      have hns : nS.size ≤ 144 := by rw [← HnS.out, numsS_size, Hl.out]; omega
      have hr4 := hS3r.below hnx4 (Nat.le_refl _)
      clear he
      go_wp2_with fail
      refine (l00Join_c A3 c3 _ (wds ms) _ hr4 hnx4.size (by rw [wds_len]; omega) (wds_size HM.out)).mono ?_
      obtain ⟨jS, HjS⟩ : ∃ s, Hid (jn (wds ms) = s) := ⟨_, rfl⟩
      have hjs : jS.size ≤ 56 := by rw [← HjS.out]; have := jn_all (wds_size HM.out); rw [wds_len] at this; omega
      rw [HjS.out]
      rintro e w5 ⟨rfl, hnx5⟩
      have h124 : (⟨#[124]⟩ : ByteArray).size = 1 := rfl
      go_wp2_with fail
      refine (l02Seal_c _ _ (by rw [ByteArray.size_append, ByteArray.size_append]; omega)).mono ?_
      have HZ := Lib.hid (show nS ++ ⟨#[124]⟩ ++ jS ++ ⟨(sumD (nS ++ ⟨#[124]⟩ ++ jS)).toArray⟩ = sealS (numsS (supN g b p t xs) ++ ⟨#[124]⟩ ++ jn (wds ms)) by rw [HnS.out, HjS.out]; rfl)
      rintro e w6 ⟨he, hnx6⟩
      have he6 := he.trans (ret_str HZ.out)
      subst he6
      clear he
      go_wp2
      go_ret
      exact ⟨rfl, (((hx2.trans hnx).trans hnx4).trans hnx5).trans hnx6⟩
set_option maxHeartbeats 2000000 in
theorem specSuperText_c (g b p t : Int) (A A2 : Option Addr) (c c2 B : Nat) (xs : List Int) (ms : List Mrk) (w : World) (h : Ins w B A xs) (h2 : Mks w B A2 ms) (hB : B ≤ w.heap.size) (hn : xs.length ≤ 1048576) (hn2 : ms.length ≤ 1048576) (hc : xs.length ≤ c) (hm : AllM ms) :
    Calls Tryz.prog 8 #[.agg #[.int .i64 g, .int .i64 b, .int .i64 p, .int .i64 t, .slice A xs.length c, .slice A2 ms.length c2]] w fun e w' => e = .returned (.tuple #[.string (supS g b p t xs ms), .int .i64 (codeB (superB g b p t xs ms) 1)]) ∧ Nx w w' := by
  cases hf : superB g b p t xs ms with
  | false =>
    have HF := Lib.hid hf
    have HS := Lib.hid (show (⟨#[]⟩ : ByteArray) = supS g b p t xs ms by unfold supS; rw [hf]; rfl)
    clear hf
    have hx0 := (Nx.refl w).alloc (.cells #[.int .i64 g, .int .i64 b, .int .i64 p, .int .i64 t, .slice A xs.length c, .slice A2 ms.length c2] 26)
    go_enter Tryz.func8, Tryz.ntmps8
    go_wp2_with fail
    refine (specSuperOK_c g b p t A A2 c c2 B xs ms _ (h.below hx0 hB) (h2.below hx0 hB) (Nat.le_trans hB hx0.size) hn hn2 hc hm).mono ?_
    rintro e w1 ⟨rfl, hnx1⟩
    rw [HF.out]
    go_wp2
    go_ret2
    exact ⟨ret_tup HS.out rfl, hx0.trans hnx1⟩
  | true =>
    have HF := Lib.hid hf
    have HS := Lib.hid (show sealS (numsS (supN g b p t xs) ++ ⟨#[124]⟩ ++ jn (wds ms)) = supS g b p t xs ms by unfold supS; rw [hf]; rfl)
    clear hf
    go_enter Tryz.func8, Tryz.ntmps8
    go_wp2_with fail
    have b0 := Box.new w 26 #[.int .i64 g, .int .i64 b, .int .i64 p, .int .i64 t, .slice A xs.length c, .slice A2 ms.length c2]
    have hx0 := (Nx.refl w).alloc (.cells #[.int .i64 g, .int .i64 b, .int .i64 p, .int .i64 t, .slice A xs.length c, .slice A2 ms.length c2] 26)
    generalize w.alloc (.cells #[.int .i64 g, .int .i64 b, .int .i64 p, .int .i64 t, .slice A xs.length c, .slice A2 ms.length c2] 26) = W at *
    refine (specSuperOK_c g b p t A A2 c c2 B xs ms _ (h.below hx0 hB) (h2.below hx0 hB) (Nat.le_trans hB hx0.size) hn hn2 hc hm).mono ?_
    rintro e w1 ⟨rfl, hnx1⟩
    rw [HF.out]
    obtain ⟨c0, c1, c2, c3, c4, c5⟩ := (b0.nx hnx1).d6
    have hx1 := hx0.trans hnx1
    go_wp2_with fail
    refine (l04Text_c g b p t A A2 _ _ B xs ms _ (h.below hx1 hB) (h2.below hx1 hB) (Nat.le_trans hB hx1.size) HF.out).mono ?_
    rintro e w2 ⟨he, hnx2⟩
    have he2 := he.trans (ret_str HS.out)
    subst he2
    clear he
    have hxz := hx1.trans hnx2
    go_wp2
    go_ret2
    exact ⟨rfl, hxz⟩
end Go.Proofs.YteckhdkghfidiaaGreatDoor
