/-
  Texts of the proof, put together in their order: Mgv, Sgl, Sgm, Chn, Chi, Chs, Chv, Mks.
  Conditions: those of each.
-/
import Derived.Test.YtihpadelfpogmaaMv3
import Derived.StillTailTactics
import Derived.Deep.Strs
/- What SegOf, Forward, Backward and MergeSegs answer of what is right; two writes put together. Conditions: those of each theorem. -/
namespace Go.Proofs.Ytihpadelfpogmaa
set_option linter.unusedVariables false
set_option maxRecDepth 100000
open Go.RowKit

theorem askC_yes {xs : List Int} {ok : Bool} (h : contB xs = true) (hk : ok = true) : askC xs ok = 0 := by
  unfold askC
  rw [if_neg (by have := (contB_yes h).1; omega), h, hk]; rfl
theorem len8 {xs : List Int} (h : contB xs = true) : xs.length ≤ 1048576 := by have := (contB_yes h).1; omega
theorem segOf_yes (A : Option Addr) (c B : Nat) (xs : List Int) (p b v t : Int) (w : World) (h : Ins w B A xs) (hB : B ≤ w.heap.size) (hc : contB xs = true) (hf : frameB p b v t = true) :
    Calls Try.prog 34 #[.slice A 8 c, .agg #[.int .i64 p, .int .i64 b, .int .i64 v, .int .i64 t]] w fun e w' =>
      ∃ A9 c9, e = .returned (.tuple #[.agg #[.int .i64 (p - 1), .int .i64 p, .int .i64 t, .slice A9 1 c9], .int .i64 0]) ∧ Sl w' w.heap.size A9 84 3 (chAt [(b, v, xs.getD b.toNat 0)]) ∧ Nx w w' := by
  have h8 := (contB_yes hc).1
  have := implSegOf_c A c B xs p b v t w h hB (len8 hc)
  rw [h8] at this
  refine this.mono fun e w' hR => ?_
  exact hR.un (show sgOf xs p b v t = ofW xs p b v t from if_pos (by rw [hc, hf]; rfl)) (askC_yes hc hf)
theorem forward_yes (A : Option Addr) (c B : Nat) (xs : List Int) (f t m : Int) (A2 : Option Addr) (c2 n : Nat) (cs : List Chg) (w : World) (hl : cs.length = n) (h : Ins w B A xs) (hg : Chs w B A2 cs) (hB : B ≤ w.heap.size) (hc : contB xs = true) (hs : segB f t m cs = true) :
    Calls Try.prog 50 #[.slice A 8 c, .agg #[.int .i64 f, .int .i64 t, .int .i64 m, .slice A2 n c2]] w fun e w' =>
      ∃ A9 c9, e = .returned (.tuple #[.slice A9 8 c9, .int .i64 0]) ∧ SlI w' w.heap.size A9 (app pN xs cs) ∧ Nx w w' := by
  subst hl
  have h8 := (contB_yes hc).1
  have := implForward_c A c B xs f t m A2 c2 cs w h hg hB (len8 hc) (by have := chsB_len (segB_chs hs); omega)
  rw [h8] at this
  refine this.mono fun e w' hR => ?_
  rw [askC_yes hc hs, fwV_yes (by rw [hc, hs]; rfl)] at hR
  obtain ⟨A9, c9, h1, h2, h3⟩ := hR
  exact ⟨A9, c9, by rw [h1, app_len, h8], h2, h3⟩
theorem backward_yes (A : Option Addr) (c B : Nat) (xs : List Int) (f t m : Int) (A2 : Option Addr) (c2 n : Nat) (cs : List Chg) (w : World) (hl : cs.length = n) (h : Ins w B A xs) (hg : Chs w B A2 cs) (hB : B ≤ w.heap.size) (hc : contB xs = true) (hs : segB f t m cs = true) :
    Calls Try.prog 52 #[.slice A 8 c, .agg #[.int .i64 f, .int .i64 t, .int .i64 m, .slice A2 n c2]] w fun e w' =>
      ∃ A9 c9, e = .returned (.tuple #[.slice A9 8 c9, .int .i64 0]) ∧ SlI w' w.heap.size A9 (app pO xs cs) ∧ Nx w w' := by
  subst hl
  have h8 := (contB_yes hc).1
  have := implBackward_c A c B xs f t m A2 c2 cs w h hg hB (len8 hc) (by have := chsB_len (segB_chs hs); omega)
  rw [h8] at this
  refine this.mono fun e w' hR => ?_
  rw [askC_yes hc hs, fwV_yes (by rw [hc, hs]; rfl)] at hR
  obtain ⟨A9, c9, h1, h2, h3⟩ := hR
  exact ⟨A9, c9, by rw [h1, app_len, h8], h2, h3⟩
theorem cases8 {n : Nat} (h : n < 8) : n = 0 ∨ n = 1 ∨ n = 2 ∨ n = 3 ∨ n = 4 ∨ n = 5 ∨ n = 6 ∨ n = 7 := by omega
/-- Two writes put together: the changes. -/
def two (b b2 : Nat) (v o v2 o2 : Int) : List Chg := if b = b2 then [((b : Int), v2, o)] else if b < b2 then [((b : Int), v, o), ((b2 : Int), v2, o2)] else [((b2 : Int), v2, o2), ((b : Int), v, o)]
theorem mrg_two {b b2 : Nat} (hb : b < 8) (hb2 : b2 < 8) (v o v2 o2 : Int) : mrgC [((b : Int), v, o)] [((b2 : Int), v2, o2)] = two b b2 v o v2 o2 := by
  rcases cases8 hb with rfl | rfl | rfl | rfl | rfl | rfl | rfl | rfl <;> rcases cases8 hb2 with rfl | rfl | rfl | rfl | rfl | rfl | rfl | rfl <;> rfl
theorem inB_of {a lo hi : Int} (h1 : lo ≤ a) (h2 : a ≤ hi) : inB lo hi a = true := inB_mk h1 h2
theorem ch_one {b v o : Int} (h : chB (b, v, o) = true) : chsB [(b, v, o)] = true := OkTo.all fun j hj => by
  obtain rfl : j = 0 := by simp at hj; omega
  unfold okCh
  show (chB (b, v, o) && _) = true
  rw [h]; rfl
theorem ch_two {c d : Chg} (h : chB c = true) (h2 : chB d = true) (hlt : c.1 < d.1) : chsB [c, d] = true := OkTo.all fun j hj => by
  have : j = 0 ∨ j = 1 := by simp at hj; omega
  unfold okCh
  rcases this with rfl | rfl
  · show (chB c && _) = true
    rw [h]; rfl
  · show (chB d && ((1 : Nat) == 0 || decide (c.1 < d.1))) = true
    rw [h2, decide_eq_true hlt]; rfl
theorem chB_mk {b v o : Int} (h0 : 0 ≤ b) (h1 : b ≤ 7) (h2 : 0 ≤ v) (h3 : v ≤ 999999) (h4 : 0 ≤ o) (h5 : o ≤ 999999) : chB (b, v, o) = true := by
  unfold chB
  rw [inB_mk h0 h1, inB_mk h2 h3, inB_mk h4 h5]; rfl
theorem two_ok {b b2 : Nat} (hb : b < 8) (hb2 : b2 < 8) {v o v2 o2 : Int} (h0 : 0 ≤ v) (h1 : v ≤ 999999) (h2 : 0 ≤ o) (h3 : o ≤ 999999) (h4 : 0 ≤ v2) (h5 : v2 ≤ 999999) (h6 : 0 ≤ o2) (h7 : o2 ≤ 999999) : chsB (two b b2 v o v2 o2) = true := by
  unfold two
  split
  · exact ch_one (chB_mk (by omega) (by omega) h4 h5 h2 h3)
  · split
    · exact ch_two (chB_mk (by omega) (by omega) h0 h1 h2 h3) (chB_mk (by omega) (by omega) h4 h5 h6 h7) (by simp only; omega)
    · exact ch_two (chB_mk (by omega) (by omega) h4 h5 h6 h7) (chB_mk (by omega) (by omega) h0 h1 h2 h3) (by simp only; omega)
theorem app_one (p : Chg → Int) (xs : List Int) (b : Nat) (v o : Int) : app p xs [((b : Int), v, o)] = xs.set b (p ((b : Int), v, o)) := by
  show xs.set ((b : Int)).toNat _ = _
  rw [Int.toNat_natCast]
theorem app_two (p : Chg → Int) (xs : List Int) (b b2 : Nat) (v o v2 o2 : Int) : app p xs [((b : Int), v, o), ((b2 : Int), v2, o2)] = (xs.set b (p ((b : Int), v, o))).set b2 (p ((b2 : Int), v2, o2)) := by
  show (xs.set ((b : Int)).toNat _).set ((b2 : Int)).toNat _ = _
  rw [Int.toNat_natCast, Int.toNat_natCast]
theorem getD_set_self {xs : List Int} {b : Nat} (h : b < xs.length) (v : Int) : (xs.set b v).getD b 0 = v := by
  rw [List.getD_eq_getElem?_getD, List.getElem?_set]; simp [h]
theorem getD_set_ne {xs : List Int} {b b2 : Nat} (h : b ≠ b2) (v : Int) : (xs.set b v).getD b2 0 = xs.getD b2 0 := by
  rw [List.getD_eq_getElem?_getD, List.getD_eq_getElem?_getD, List.getElem?_set_ne h]
theorem set_getD {xs : List Int} {b : Nat} (h : b < xs.length) : xs.set b (xs.getD b 0) = xs := by
  rw [List.getD_eq_getElem?_getD, List.getElem?_eq_getElem h]
  exact List.set_getElem_self h
/-- Forwards it does what both do. -/
theorem two_new (xs : List Int) (b b2 : Nat) (v o v2 o2 : Int) : app pN xs (two b b2 v o v2 o2) = (xs.set b v).set b2 v2 := by
  unfold two
  split
  · rename_i h
    subst h
    rw [app_one]
    show xs.set b v2 = _
    rw [List.set_set]
  · rename_i h
    split
    · rw [app_two]; rfl
    · rw [app_two]
      show (xs.set b2 v2).set b v = _
      rw [List.set_comm _ _ (fun e => h e.symm)]
/-- .. and back. -/
theorem two_old {xs : List Int} {b b2 : Nat} (hb : b < xs.length) (hb2 : b2 < xs.length) (v v2 : Int) : app pO ((xs.set b v).set b2 v2) (two b b2 v (xs.getD b 0) v2 ((xs.set b v).getD b2 0)) = xs := by
  unfold two
  split
  · rename_i h
    subst h
    rw [app_one]
    show ((xs.set b v).set b v2).set b (xs.getD b 0) = xs
    rw [List.set_set, List.set_set, set_getD hb]
  · rename_i h
    rw [getD_set_ne h]
    have e : ((((xs.set b v).set b2 v2).set b (xs.getD b 0)).set b2 (xs.getD b2 0)) = xs := by
      rw [List.set_comm _ _ (fun e => h e.symm), List.set_set, List.set_set, set_getD hb, set_getD hb2]
    split
    · rw [app_two]; exact e
    · rw [app_two]
      show (((xs.set b v).set b2 v2).set b2 (xs.getD b2 0)).set b (xs.getD b 0) = xs
      rw [List.set_comm _ _ (fun e => h e.symm)]; exact e
theorem cont_set {xs : List Int} {b : Nat} {v : Int} (h : contB xs = true) (h0 : 0 ≤ v) (h1 : v ≤ 999999) : contB (xs.set b v) = true := by
  obtain ⟨h8, hv⟩ := contB_yes h
  refine contB_mk (by rw [List.length_set]; exact h8) fun j hj => ?_
  rw [List.length_set] at hj
  by_cases e : b = j
  · subst e; rw [getD_set_self hj]; exact inB_mk h0 h1
  · rw [getD_set_ne e]; have := hv j (by omega); exact inB_mk this.1 this.2
theorem frameB_mk {p b v t : Int} (h1 : 1 ≤ p) (h2 : p ≤ 999999) (h3 : 0 ≤ b) (h4 : b ≤ 7) (h5 : 0 ≤ v) (h6 : v ≤ 999999) (h7 : 0 ≤ t) (h8 : t ≤ 999999) : frameB p b v t = true := by
  unfold frameB; rw [inB_mk h1 h2, inB_mk h3 h4, inB_mk h5 h6, inB_mk h7 h8]; rfl
/-- All that FnMerge's values are. -/
structure MV (xs : List Int) (p b v t b2 v2 t2 : Nat) (o o2 : Int) (x1 y1 : List Int) (qs : List Chg) : Prop where
  o_ : xs.getD b 0 = o
  o2_ : x1.getD b2 0 = o2
  f1 : frameB (p : Int) (b : Int) (v : Int) (t : Int) = true
  f2 : frameB ((p : Int) + 1) (b2 : Int) (v2 : Int) (t2 : Int) = true
  c1 : contB x1 = true
  c2 : contB y1 = true
  s1 : segB ((p : Int) - 1) (p : Int) (t : Int) [((b : Int), (v : Int), o)] = true
  s2 : segB (p : Int) ((p : Int) + 1) (t2 : Int) [((b2 : Int), (v2 : Int), o2)] = true
  s3 : segB ((p : Int) - 1) ((p : Int) + 1) (t2 : Int) qs = true
  e1 : app pN xs [((b : Int), (v : Int), o)] = x1
  e2 : app pN x1 [((b2 : Int), (v2 : Int), o2)] = y1
  e3 : app pN xs qs = y1
  e4 : app pO y1 qs = xs
  g1 : mgSg ((p : Int) - 1) (p : Int) (t : Int) [((b : Int), (v : Int), o)] (p : Int) ((p : Int) + 1) (t2 : Int) [((b2 : Int), (v2 : Int), o2)] = ((p : Int) - 1, (p : Int) + 1, (t2 : Int), qs)
  g2 : mgCd ((p : Int) - 1) (p : Int) (t : Int) [((b : Int), (v : Int), o)] (p : Int) ((p : Int) + 1) (t2 : Int) [((b2 : Int), (v2 : Int), o2)] = 0
  g3 : mgSg (p : Int) ((p : Int) + 1) (t2 : Int) [((b2 : Int), (v2 : Int), o2)] ((p : Int) - 1) (p : Int) (t : Int) [((b : Int), (v : Int), o)] = (0, 0, 0, [])
  g4 : mgCd (p : Int) ((p : Int) + 1) (t2 : Int) [((b2 : Int), (v2 : Int), o2)] ((p : Int) - 1) (p : Int) (t : Int) [((b : Int), (v : Int), o)] = 17
  y_ : y1.getD b2 0 = (v2 : Int)
  q8 : qs.length ≤ 8
theorem mv {xs : List Int} {p b v t b2 v2 t2 : Nat} (hc : contB xs = true) (h : 1 ≤ p ∧ p ≤ 20 ∧ b < 8 ∧ v < 900 ∧ t < 200) (h2 : b2 < 8 ∧ v2 < 900 ∧ t2 < 200) : ∃ o o2 x1 y1 qs, MV xs p b v t b2 v2 t2 o o2 x1 y1 qs := by
  obtain ⟨h8, hv⟩ := contB_yes hc
  have hc1 := cont_set (b := b) (v := (v : Int)) hc (by omega) (by omega)
  have hc2 := cont_set (b := b2) (v := (v2 : Int)) hc1 (by omega) (by omega)
  obtain ⟨h81, hv1⟩ := contB_yes hc1
  have ho := hv b (by omega)
  have ho2 := hv1 b2 (by omega)
  have hk := two_ok (b := b) (b2 := b2) (v := (v : Int)) (o := xs.getD b 0) (v2 := (v2 : Int)) (o2 := (xs.set b (v : Int)).getD b2 0) (by omega) (by omega) (by omega) (by omega) ho.1 ho.2 (by omega) (by omega) ho2.1 ho2.2
  have s1 : segB ((p : Int) - 1) (p : Int) (t : Int) [((b : Int), (v : Int), xs.getD b 0)] = true := segB_mk (by omega) (by omega) (by omega) (inB_mk (by omega) (by omega)) (ch_one (chB_mk (by omega) (by omega) (by omega) (by omega) ho.1 ho.2))
  have s2 : segB (p : Int) ((p : Int) + 1) (t2 : Int) [((b2 : Int), (v2 : Int), (xs.set b (v : Int)).getD b2 0)] = true := segB_mk (by omega) (by omega) (by omega) (inB_mk (by omega) (by omega)) (ch_one (chB_mk (by omega) (by omega) (by omega) (by omega) ho2.1 ho2.2))
  have hm1 := mg_yes (f := (p : Int) - 1) (t := (p : Int)) (m := (t : Int)) (l1 := [((b : Int), (v : Int), xs.getD b 0)]) (f2 := (p : Int)) (t2 := (p : Int) + 1) (m2 := (t2 : Int)) (l2 := [((b2 : Int), (v2 : Int), (xs.set b (v : Int)).getD b2 0)]) (by unfold mgB; rw [s1, s2]; rfl) rfl
  have hm2 := mg_gap (f := (p : Int)) (t := (p : Int) + 1) (m := (t2 : Int)) (l1 := [((b2 : Int), (v2 : Int), (xs.set b (v : Int)).getD b2 0)]) (f2 := (p : Int) - 1) (t2 := (p : Int)) (m2 := (t : Int)) (l2 := [((b : Int), (v : Int), xs.getD b 0)]) (by unfold mgB; rw [s1, s2]; rfl) (by omega)
  refine ⟨xs.getD b 0, (xs.set b (v : Int)).getD b2 0, xs.set b (v : Int), (xs.set b (v : Int)).set b2 (v2 : Int), two b b2 (v : Int) (xs.getD b 0) (v2 : Int) ((xs.set b (v : Int)).getD b2 0), ⟨rfl, rfl, frameB_mk (by omega) (by omega) (by omega) (by omega) (by omega) (by omega) (by omega) (by omega), frameB_mk (by omega) (by omega) (by omega) (by omega) (by omega) (by omega) (by omega) (by omega), hc1, hc2, s1, s2,
    segB_mk (by omega) (by omega) (by omega) (inB_mk (by omega) (by omega)) hk, app_one _ _ _ _ _, app_one _ _ _ _ _, two_new _ _ _ _ _ _ _, two_old (by omega) (by omega) _ _, by rw [hm1.2, mrg_two (by omega) (by omega)], hm1.1, hm2.2, hm2.1, getD_set_self (by omega) _, chsB_len hk⟩⟩
end Go.Proofs.Ytihpadelfpogmaa
/- Words on lists of segments in memory; contracts of the laws' functions that count, copy and compare such lists; a list that comes in, opened. Conditions: what is read can be read; copied or compared: at most 1048576 of each. -/
namespace Go.Proofs.Ytihpadelfpogmaa
set_option linter.unusedVariables false
set_option maxRecDepth 100000
open Go.Joins Go.ChangeShapes Go.WideShapes Go.RowKit Go.Deep

/-- A segment in memory: from, to, time, where its changes lie, their capacity, the changes. -/
structure SgR where
  f : Int
  t : Int
  m : Int
  A : Option Addr
  c : Nat
  cs : List Chg
def sgZ : SgR := ⟨0, 0, 0, none, 0, []⟩
def SgR.v (g : SgR) : Sg4 := (g.f, g.t, g.m, g.cs)
def sgAt (gs : List SgR) (i : Nat) : Value :=
  if i % 4 = 0 then .int .i64 (gs.getD (i / 4) sgZ).f else if i % 4 = 1 then .int .i64 (gs.getD (i / 4) sgZ).t else if i % 4 = 2 then .int .i64 (gs.getD (i / 4) sgZ).m else .slice (gs.getD (i / 4) sgZ).A (gs.getD (i / 4) sgZ).cs.length (gs.getD (i / 4) sgZ).c
theorem sgAt0 (gs : List SgR) (k : Nat) : sgAt gs (k * 4) = .int .i64 (gs.getD k sgZ).f := by
  unfold sgAt; rw [if_pos (by omega), show k * 4 / 4 = k by omega]
theorem sgAt1 (gs : List SgR) (k : Nat) : sgAt gs (k * 4 + 1) = .int .i64 (gs.getD k sgZ).t := by
  unfold sgAt; rw [if_neg (by omega), if_pos (by omega), show (k * 4 + 1) / 4 = k by omega]
theorem sgAt2 (gs : List SgR) (k : Nat) : sgAt gs (k * 4 + 2) = .int .i64 (gs.getD k sgZ).m := by
  unfold sgAt; rw [if_neg (by omega), if_neg (by omega), if_pos (by omega), show (k * 4 + 2) / 4 = k by omega]
theorem sgAt3 (gs : List SgR) (k : Nat) : sgAt gs (k * 4 + 3) = .slice (gs.getD k sgZ).A (gs.getD k sgZ).cs.length (gs.getD k sgZ).c := by
  unfold sgAt; rw [if_neg (by omega), if_neg (by omega), if_neg (by omega), show (k * 4 + 3) / 4 = k by omega]
theorem sgAt_app (gs hs : List SgR) (i : Nat) (h : i < gs.length * 4) : sgAt (gs ++ hs) i = sgAt gs i := by
  have e : (gs ++ hs).getD (i / 4) sgZ = gs.getD (i / 4) sgZ := by
    rw [List.getD_eq_getElem?_getD, List.getD_eq_getElem?_getD, List.getElem?_append_left (by omega)]
  unfold sgAt; rw [e]
theorem getD_app (gs : List SgR) (g : SgR) : (gs ++ [g]).getD gs.length sgZ = g := by
  rw [List.getD_eq_getElem?_getD, List.getElem?_append_right (Nat.le_refl _)]; simp
theorem getD_app_lt (gs : List SgR) (g : SgR) {k : Nat} (h : k < gs.length) : (gs ++ [g]).getD k sgZ = gs.getD k sgZ := by
  rw [List.getD_eq_getElem?_getD, List.getD_eq_getElem?_getD, List.getElem?_append_left h]
theorem v_at {gs hs : List SgR} (h : gs.map SgR.v = hs.map SgR.v) (k : Nat) : (gs.getD k sgZ).v = (hs.getD k sgZ).v := by
  have e : (gs.map SgR.v)[k]? = (hs.map SgR.v)[k]? := by rw [h]
  rw [List.getElem?_map, List.getElem?_map] at e
  rw [List.getD_eq_getElem?_getD, List.getD_eq_getElem?_getD]
  cases h1 : gs[k]? <;> cases h2 : hs[k]? <;> rw [h1, h2] at e <;> simp at e
  · exact e
theorem v_len {gs hs : List SgR} (h : gs.map SgR.v = hs.map SgR.v) : gs.length = hs.length := by
  have := congrArg List.length h
  simpa using this
/-- A list of segments that is read. -/
structure Sgs (w : World) (B : Nat) (A : Option Addr) (gs : List SgR) : Prop where
  row : Row w B A (gs.length * 4) (sgAt gs)
  chs : ∀ k, k < gs.length → Chs w B (gs.getD k sgZ).A (gs.getD k sgZ).cs
theorem Sgs.below {w w' : World} {B B' : Nat} {A : Option Addr} {gs : List SgR} (h : Sgs w B A gs) (hb : Below B' w w') (hB : B ≤ B') : Sgs w' B A gs := ⟨h.row.below hb hB, fun k hk => (h.chs k hk).below hb hB⟩
theorem Row.at4 {w : World} {B k : Nat} {A : Option Addr} {gs : List SgR} (h : Row w B A (gs.length * 4) (sgAt gs)) (hk : k < gs.length) :
    ∃ b off, A = some ⟨b, off, none⟩ ∧ b < B ∧ w.cell? ⟨b, off + k * 4, none⟩ = some (.int .i64 (gs.getD k sgZ).f) ∧ w.cell? ⟨b, off + k * 4 + 1, none⟩ = some (.int .i64 (gs.getD k sgZ).t) ∧ w.cell? ⟨b, off + k * 4 + 2, none⟩ = some (.int .i64 (gs.getD k sgZ).m)
      ∧ w.cell? ⟨b, off + k * 4 + 3, none⟩ = some (.slice (gs.getD k sgZ).A (gs.getD k sgZ).cs.length (gs.getD k sgZ).c) := by
  obtain ⟨b, off, e, hb, hc⟩ := h (by omega)
  have h0 := hc (k * 4) (by omega)
  have h1 := hc (k * 4 + 1) (by omega)
  have h2 := hc (k * 4 + 2) (by omega)
  have h3 := hc (k * 4 + 3) (by omega)
  rw [sgAt0] at h0
  rw [sgAt1] at h1
  rw [sgAt2] at h2
  rw [sgAt3] at h3
  exact ⟨b, off, e, hb, h0, h1, h2, h3⟩
/-- A list of segments in blocks of the call's own. -/
structure SgO (w : World) (lo : Nat) (A : Option Addr) (gs : List SgR) : Prop where
  row : Sl w lo A 54 (gs.length * 4) (sgAt gs)
  chs : ∀ k, k < gs.length → Sl w lo (gs.getD k sgZ).A 84 ((gs.getD k sgZ).cs.length * 3) (chAt (gs.getD k sgZ).cs)
theorem SgO.nx {w w' : World} {lo : Nat} {A : Option Addr} {gs : List SgR} (h : SgO w lo A gs) (hb : Nx w w') : SgO w' lo A gs := ⟨h.row.nx hb, fun k hk => (h.chs k hk).nx hb⟩
theorem SgO.low {w : World} {lo lo' : Nat} {A : Option Addr} {gs : List SgR} (h : SgO w lo A gs) (hl : lo' ≤ lo) : SgO w lo' A gs := ⟨h.row.low hl, fun k hk => (h.chs k hk).low hl⟩
theorem SgO.sgs {w : World} {lo : Nat} {A : Option Addr} {gs : List SgR} (h : SgO w lo A gs) : Sgs w w.heap.size A gs := ⟨h.row.row, fun k hk => (h.chs k hk).row⟩
/-- How many changes the first k have. -/
def ssum (gs : List SgR) (k : Nat) : Nat := ((gs.take k).map fun g => g.cs.length).sum
theorem ssum_zero (gs : List SgR) : ssum gs 0 = 0 := rfl
theorem ssum_succ {gs : List SgR} {k : Nat} (hk : k < gs.length) : ssum gs (k + 1) = ssum gs k + (gs.getD k sgZ).cs.length := by
  unfold ssum
  rw [List.take_succ_eq_append_getElem hk, List.map_append, List.sum_append, List.getD_eq_getElem?_getD, List.getElem?_eq_getElem hk]
  simp
theorem ssum_le {gs : List SgR} {j k : Nat} (h : j ≤ k) (hk : k ≤ gs.length) : ssum gs j ≤ ssum gs k := by
  induction k with
  | zero => rw [show j = 0 by omega]; exact Nat.le_refl _
  | succ k ih =>
    by_cases e : j = k + 1
    · rw [e]; exact Nat.le_refl _
    · have := ih (by omega) (by omega)
      rw [ssum_succ (by omega)]; omega
theorem ssum_one {gs : List SgR} {k : Nat} (hk : k < gs.length) : (gs.getD k sgZ).cs.length ≤ ssum gs gs.length := by
  have h1 := ssum_succ hk
  have h2 := ssum_le (gs := gs) (j := k + 1) (k := gs.length) (by omega) (Nat.le_refl _)
  omega

set_option maxHeartbeats 1000000 in
theorem szSegS_c (A : Option Addr) (c B : Nat) (gs : List SgR) (left : Int) (w : World) (h : Row w B A (gs.length * 4) (sgAt gs)) (hB : B ≤ w.heap.size) (hn : gs.length ≤ 2 ^ 63 - 1) (hm : ∀ k, k < gs.length → (gs.getD k sgZ).cs.length ≤ 2 ^ 63 - 1) (h0 : 0 ≤ left) (h1 : left ≤ 1048576) :
    Calls Try.prog 61 #[.slice A gs.length c, .int .i64 left] w fun e w' => e = .returned (.int .i64 (szR left ((gs.length : Int) + (ssum gs gs.length : Int)))) ∧ Nx w w' := by
  by_cases hle : (gs.length : Int) ≤ left
  case neg =>
    have HF := Lib.hid (szR_no (left := left) (cost := (gs.length : Int) + (ssum gs gs.length : Int)) (by omega))
    have hd : decide (left - (gs.length : Int) < 0) = true := by simp; omega
    go_enter Try.func61, Try.ntmps61
    go_wp2
    go_ret
    exact ⟨ret_int HF.out, Nx.refl _⟩
  have hd : decide (left - (gs.length : Int) < 0) = false := by simp; omega
  obtain ⟨n, Hn⟩ : ∃ n, Hid (gs.length = n) := ⟨_, rfl⟩
  have hm' : ∀ k, k < n → (gs.getD k sgZ).cs.length ≤ 2 ^ 63 - 1 := by rw [← Hn.out]; exact hm
  have h' : ∀ k, k < n → _ := fun k hk => h.at4 (k := k) (by rw [Hn.out]; exact hk)
  have hsu : ∀ k, k < n → _ := fun k hk => ssum_succ (gs := gs) (k := k) (by rw [Hn.out]; exact hk)
  have hso : ∀ k, k ≤ n → ssum gs k ≤ ssum gs n := fun k hk => ssum_le hk (by rw [Hn.out]; exact Nat.le_refl _)
  rw [Hn.out] at hle hd hn ⊢
  clear hm h
  go_enter Try.func61, Try.ntmps61
  go_wp2
  go_loopw [1, 5] (fun l i wr => ∃ k : Nat, k ≤ n ∧ i = .int .i64 k ∧ (n : Int) + (ssum gs k : Int) ≤ left ∧ l = .int .i64 (left - ((n : Int) + (ssum gs k : Int))) ∧ Nx w wr) (fun _ i _ => n - (intOf i).toNat)
  case atStart => exact ⟨0, Nat.zero_le _, rfl, by rw [ssum_zero]; omega, by rw [ssum_zero]; go_num, Nx.refl _⟩
  case round =>
    obtain ⟨k, hk, rfl, hle2, rfl, hnx⟩ := hrel
    by_cases hlt : k < n
    · obtain ⟨b, off, rfl, hb, c0, c1, c2, c3⟩ := h' k hlt
      have hmk := hm' k hlt
      have Hsu := Lib.hid (hsu k hlt)
      have Hso := Lib.hid (hso (k + 1) hlt)
      replace c0 := (hnx.cell (p := ⟨b, off + k * 4, none⟩) (by simp; omega)).trans c0
      replace c1 := (hnx.cell (p := ⟨b, off + k * 4 + 1, none⟩) (by simp; omega)).trans c1
      replace c2 := (hnx.cell (p := ⟨b, off + k * 4 + 2, none⟩) (by simp; omega)).trans c2
      replace c3 := (hnx.cell (p := ⟨b, off + k * 4 + 3, none⟩) (by simp; omega)).trans c3
      clear h' hm' hsu hso
      generalize gs.getD k sgZ = s at *
      obtain ⟨f, t, m, A2, cc, cs⟩ := s
      simp only at c0 c1 c2 c3 hmk Hsu
      obtain ⟨q, Hq⟩ : ∃ q : Int, Hid (left - ((n : Int) + (ssum gs k : Int)) = q) := ⟨_, rfl⟩
      have hq0 : 0 ≤ q := by have := Hq.out; omega
      have hq1 : q ≤ 1048576 := by have := Hq.out; omega
      rw [Hq.out]
      go_wp2_with fail
      refine (szSeg_c f t m A2 cs.length cc q _ hmk hq0 hq1).mono ?_
      rintro e w1 ⟨rfl, hx1⟩
      by_cases hg : (cs.length : Int) ≤ q
      · rw [← szR_yes hg]
        have hd2 : decide (q - (cs.length : Int) < 0) = false := by simp; omega
        go_wp2
        go_roundw
        case rel => exact ⟨k + 1, by omega, by go_num, by have := Hsu.out; have := Hq.out; omega, by have h5 := Hsu.out; have := Hq.out; rw [show left - ((n : Int) + (ssum gs (k + 1) : Int)) = q - (cs.length : Int) by omega], hnx.trans hx1⟩
        case measure => simp [intOf]; omega
      · rw [← szR_no (by omega)]
        go_wp2
        go_ret
        exact ⟨ret_int (szR_no (by have := Hsu.out; have := Hso.out; have := Hq.out; omega)), hnx.trans hx1⟩
    · obtain rfl : k = n := by omega
      go_wp2
      go_ret
      exact ⟨ret_int (szR_yes hle2), hnx⟩
end Go.Proofs.Ytihpadelfpogmaa
/- Contracts of the laws' functions that copy and compare lists of segments; a list of segments that comes in, opened. Conditions: what is read can be read; copied or compared: at most 1048576 of each. -/
namespace Go.Proofs.Ytihpadelfpogmaa
set_option linter.unusedVariables false
set_option maxRecDepth 100000
open Go.Joins Go.ChangeShapes Go.WideShapes Go.RowKit Go.Deep

theorem info_sg : (Try.prog.info? 54).map (fun i => (i.zero, i.size, i.bytes)) = some (some (.agg #[.int .i64 0, .int .i64 0, .int .i64 0, .slice none 0 0]), 4, 48) := by kernel_rfl
theorem Fill.congr {w : World} {g : Nat} {t : TypeId} {m k : Nat} {F F' : Nat → Value} (h : Fill w g t m k F) (hf : ∀ i, i < k → F i = F' i) : Fill w g t m k F' := by
  obtain ⟨f, h, hF⟩ := h
  exact ⟨f, h, fun i hi => (hF i hi).trans (hf i hi)⟩
/-- What a function leaves that answers a list of segments in new memory. -/
def RetGs (w : World) (gs : List SgR) (e : Ending) (w' : World) : Prop := ∃ (A : Option Addr) (c : Nat) (gs' : List SgR), e = .returned (.slice A gs'.length c) ∧ gs'.map SgR.v = gs.map SgR.v ∧ SgO w' w.heap.size A gs' ∧ Nx w w'
set_option maxRecDepth 100000 in
set_option maxHeartbeats 2000000 in
/-- .. with room for what it holds. -/
def RetGsc (w : World) (gs : List SgR) (e : Ending) (w' : World) : Prop := ∃ (A : Option Addr) (c : Nat) (gs' : List SgR), e = .returned (.slice A gs'.length c) ∧ gs'.map SgR.v = gs.map SgR.v ∧ gs'.length ≤ c ∧ SgO w' w.heap.size A gs' ∧ Nx w w'
set_option maxRecDepth 100000 in
set_option maxHeartbeats 2000000 in
theorem toSegSc_c (A : Option Addr) (c B : Nat) (gs : List SgR) (w : World) (h : Sgs w B A gs) (hB : B ≤ w.heap.size) (hn : gs.length ≤ 1048576) (hm : ∀ k, k < gs.length → (gs.getD k sgZ).cs.length ≤ 1048576) :
    Calls Try.prog 65 #[.slice A gs.length c] w (RetGsc w gs) := by
  obtain ⟨n, Hn⟩ : ∃ n, Hid (gs.length = n) := ⟨_, rfl⟩
  rw [Hn.out] at hn ⊢
  obtain ⟨i0, hi0, hz0, hz1, hz2⟩ := info_parts info_sg
  have hmk := fun W => run_make_rowN (P := Try.prog) 34 54 i0 _ Try.underlying34 hi0 hz0 .i64 .i64 n n (Nat.le_refl _) (by rw [hz2]; omega) (by omega) W
  rw [hz1] at hmk
  have hmade := Own.made w #[Value.int .i64 0, Value.int .i64 0, Value.int .i64 0, Value.slice none 0 0] (n * 4) 54
  go_enter Try.func65, Try.ntmps65
  go_wp2
  go_loopw [4] (fun i wr => ∃ k : Nat, k ≤ n ∧ i = .int .i64 k ∧ Nx w wr ∧ ∃ gs' : List SgR, gs'.length = k ∧ gs'.map SgR.v = (gs.take k).map SgR.v ∧ Fill wr w.heap.size 54 (n * 4) (k * 4) (sgAt gs')
      ∧ ∀ j, j < k → Sl wr (w.heap.size + 1) (gs'.getD j sgZ).A 84 ((gs'.getD j sgZ).cs.length * 3) (chAt (gs'.getD j sgZ).cs)) (fun i _ => n - (intOf i).toNat)
  case atStart => exact ⟨0, Nat.zero_le _, rfl, (Nx.refl _).alloc _, [], rfl, rfl, Fill.start hmade, fun j hj => absurd hj (by omega)⟩
  case round =>
    obtain ⟨k, hk, rfl, hnx, gs', hl', hv', hf, hS⟩ := hrel
    by_cases hlt : k < n
    · have hlk : k < gs.length := by rw [Hn.out]; exact hlt
      obtain ⟨b, off, rfl, hb, p0, p1, p2, p3⟩ := (h.below hnx hB).row.at4 hlk
      have hch := (h.below hnx hB).chs k hlk
      have hmk' := hm k hlk
      have Hv := Lib.hid (show (gs.take (k + 1)).map SgR.v = (gs.take k).map SgR.v ++ [(gs.getD k sgZ).v] by
        rw [List.take_succ_eq_append_getElem hlk, List.map_append, List.getD_eq_getElem?_getD, List.getElem?_eq_getElem hlk]; rfl)
      clear hmk hmade h hm
      have hlw := hf.lt
      obtain ⟨⟨f, t, m, A2, cc, cs⟩, Hs⟩ : ∃ s, Hid (gs.getD k sgZ = s) := ⟨_, rfl⟩
      rw [Hs.out] at p0 p1 p2 p3 hch hmk' Hv
      simp only at p0 p1 p2 p3 hch hmk'
      go_wp2_with fail
      refine (toSeg_c f t m A2 cc B cs _ hch (Nat.le_trans hB hnx.size) hmk').mono ?_
      rintro e w1 ⟨A3, c3, rfl, hS3, hnx1⟩
      have hf1 := hf.nx hnx1
      obtain ⟨v0, hv0⟩ := hf1.some_ (i := k * 4) (by omega)
      obtain ⟨v1, hv1⟩ := hf1.some_ (i := k * 4 + 1) (by omega)
      obtain ⟨v2, hv2⟩ := hf1.some_ (i := k * 4 + 2) (by omega)
      obtain ⟨v3, hv3⟩ := hf1.some_ (i := k * 4 + 3) (by omega)
      have hz0 := hf1.frozen (k * 4)
      have hz1 := hf1.frozen (k * 4 + 1)
      have hz2 := hf1.frozen (k * 4 + 2)
      have hz3 := hf1.frozen (k * 4 + 3)
      clear p0 p1 p2 p3
      have hS3' := hS3.low (lo' := w.heap.size + 1) (by omega)
      go_wp2
      go_roundw
      case rel =>
        refine ⟨k + 1, by omega, by go_num, ((((hnx.trans hnx1).setCell (Nat.le_refl _) _).setCell (Nat.le_refl _) _).setCell (Nat.le_refl _) _).setCell (Nat.le_refl _) _, gs' ++ [⟨f, t, m, A3, c3, cs⟩], by simp [hl'], ?_, ?_, ?_⟩
        · rw [Hv.out, List.map_append, hv']; rfl
        · have e2 : (k + 1) * 4 = k * 4 + 1 + 1 + 1 + 1 := by omega
          have eg : (gs' ++ [(⟨f, t, m, A3, c3, cs⟩ : SgR)]).getD k sgZ = ⟨f, t, m, A3, c3, cs⟩ := by rw [← hl']; exact getD_app _ _
          rw [e2]
          exact ((((hf1.congr fun i hi => (sgAt_app gs' _ i (by rw [hl']; exact hi)).symm).step (by omega) (by rw [sgAt0, eg])).step (by omega) (by rw [sgAt1, eg])).step (by omega) (by rw [show k * 4 + 1 + 1 = k * 4 + 2 by omega, sgAt2, eg])).step (by omega) (by rw [show k * 4 + 1 + 1 + 1 = k * 4 + 3 by omega, sgAt3, eg])
        · intro j hj
          have far : ∀ {A' : Option Addr} {cs' : List Chg}, Sl w1 (w.heap.size + 1) A' 84 (cs'.length * 3) (chAt cs') → Sl ((((w1.setCell ⟨w.heap.size, k * 4, none⟩ (.int .i64 f)).setCell ⟨w.heap.size, k * 4 + 1, none⟩ (.int .i64 t)).setCell ⟨w.heap.size, k * 4 + 2, none⟩ (.int .i64 m)).setCell ⟨w.heap.size, k * 4 + 3, none⟩ (.slice A3 cs.length c3)) (w.heap.size + 1) A' 84 (cs'.length * 3) (chAt cs') :=
            fun hh => (((hh.far (p := ⟨w.heap.size, k * 4, none⟩) (by simp) _).far (p := ⟨w.heap.size, k * 4 + 1, none⟩) (by simp) _).far (p := ⟨w.heap.size, k * 4 + 2, none⟩) (by simp) _).far (p := ⟨w.heap.size, k * 4 + 3, none⟩) (by simp) _
          by_cases hjk : j < k
          · rw [getD_app_lt gs' _ (by rw [hl']; exact hjk)]
            exact far ((hS j hjk).nx hnx1)
          · obtain rfl : j = k := by omega
            rw [show (gs' ++ [(⟨f, t, m, A3, c3, cs⟩ : SgR)]).getD j sgZ = ⟨f, t, m, A3, c3, cs⟩ by rw [← hl']; exact getD_app _ _]
            exact far hS3'
      case measure => simp [intOf]; omega
    · obtain rfl : k = n := by omega
      have hvv : gs'.map SgR.v = gs.map SgR.v := by rw [hv', ← Hn.out, List.take_length]
      go_wp2
      go_ret
      exact ⟨_, _, gs', by rw [hl']; rfl, hvv, by rw [hl']; exact Nat.le_refl _, ⟨by rw [hl']; exact Sl.own hf.done (Nat.le_refl _), fun j hj => (hS j (by rw [hl'] at hj; exact hj)).low (by omega)⟩, hnx⟩

theorem toSegS_c (A : Option Addr) (c B : Nat) (gs : List SgR) (w : World) (h : Sgs w B A gs) (hB : B ≤ w.heap.size) (hn : gs.length ≤ 1048576) (hm : ∀ k, k < gs.length → (gs.getD k sgZ).cs.length ≤ 1048576) :
    Calls Try.prog 65 #[.slice A gs.length c] w (RetGs w gs) :=
  (toSegSc_c A c B gs w h hB hn hm).mono fun e w' ⟨A', c', gs', h1, h2, _, h3, h4⟩ => ⟨A', c', gs', h1, h2, h3, h4⟩

set_option maxRecDepth 100000 in
set_option maxHeartbeats 2000000 in
theorem eqSegS_c (A A2 : Option Addr) (c c2 B : Nat) (gs hs : List SgR) (w : World) (h : Sgs w B A gs) (h2 : Sgs w B A2 hs) (hv : gs.map SgR.v = hs.map SgR.v) (hB : B ≤ w.heap.size) (hn : gs.length ≤ 1048576) (hm : ∀ k, k < gs.length → (gs.getD k sgZ).cs.length ≤ 1048576) :
    Calls Try.prog 70 #[.slice A gs.length c, .slice A2 hs.length c2] w fun e w' => e = .returned (.bool true) ∧ Nx w w' := by
  have hl := v_len hv
  obtain ⟨n, Hn⟩ : ∃ n, Hid (gs.length = n) := ⟨_, rfl⟩
  have hlh : hs.length = n := hl.symm.trans Hn.out
  have Hl := Lib.hid hlh
  rw [Hn.out] at hn ⊢
  rw [hlh]
  clear hl hlh
  go_enter Try.func70, Try.ntmps70
  go_wp2
  go_loopw [5] (fun i wr => ∃ k : Nat, k ≤ n ∧ i = .int .i64 k ∧ Nx w wr) (fun i _ => n - (intOf i).toNat)
  case atStart => exact ⟨0, Nat.zero_le _, rfl, Nx.refl _⟩
  case round =>
    obtain ⟨k, hk, rfl, hnx⟩ := hrel
    by_cases hlt : k < n
    · have hlk : k < gs.length := by rw [Hn.out]; exact hlt
      obtain ⟨b, off, rfl, hb, p0, p1, p2, p3⟩ := (h.below hnx hB).row.at4 hlk
      obtain ⟨b2, off2, rfl, hb2, q0, q1, q2, q3⟩ := (h2.below hnx hB).row.at4 (by rw [Hl.out]; exact hlt)
      have hc1 := (h.below hnx hB).chs k hlk
      have hc2 := (h2.below hnx hB).chs k (by rw [Hl.out]; exact hlt)
      have hmk := hm k hlk
      have hvk := v_at hv k
      generalize gs.getD k sgZ = s at p0 p1 p2 p3 hc1 hmk hvk
      generalize hs.getD k sgZ = s2 at q0 q1 q2 q3 hc2 hvk
      obtain ⟨f, t, m, A3, c3, cs⟩ := s
      obtain ⟨f2, t2, m2, A4, c4, cs2⟩ := s2
      unfold SgR.v at hvk
      simp only [Prod.mk.injEq] at hvk
      obtain ⟨rfl, rfl, rfl, rfl⟩ := hvk
      simp only at p0 p1 p2 p3 q0 q1 q2 q3 hc1 hc2 hmk
      go_wp2_with fail
      go_still_tail 8, (by kernel_rfl)
      change wpList _ _ _ _ _ wr.drew
      have hnx1 : Nx w wr.drew := Below.drew hnx
      have hd1 : Chs wr.drew B A3 cs := hc1
      have hd2 : Chs wr.drew B A4 cs := hc2
      have hsz : B ≤ wr.drew.heap.size := Nat.le_trans hB hnx.size
      generalize wr.drew = wd at *
      go_wp2_with fail
      refine (eqSeg_c f t m A3 A4 c3 c4 B cs _ hd1 hd2 hsz hmk).mono ?_
      rintro e w1 ⟨rfl, hnx2⟩
      go_wp2
      go_roundw
      case rel => exact ⟨k + 1, by omega, by go_num, hnx1.trans hnx2⟩
      case measure => simp [intOf]; omega
    · go_wp2
      go_ret
      exact ⟨rfl, hnx⟩
end Go.Proofs.Ytihpadelfpogmaa
/- What a chain of segments is; contract of the program's goesOnFrom. Conditions: the changes can be read; their blocks are blocks. -/
namespace Go.Proofs.Ytihpadelfpogmaa
set_option linter.unusedVariables false
set_option maxRecDepth 100000
open Go.RowKit

/-- Where the first k lead to; the time of the last of them; what they noted of each block. -/
def atK (base : Int) (gs : List SgR) : Nat → Int
  | 0 => base
  | k + 1 => (gs.getD k sgZ).t
def tmK (gs : List SgR) : Nat → Int
  | 0 => 0
  | k + 1 => (gs.getD k sgZ).m
def mpK (gs : List SgR) : Nat → Int → Option Chg
  | 0 => noM
  | k + 1 => noteM (mpK gs k) (gs.getD k sgZ).cs
/-- What was old is what was new ahead of it, where that is known. -/
def onC (M : Int → Option Chg) (c : Chg) : Bool := match M c.1 with
  | some a => decide (a.2.1 = c.2.2)
  | none => true
def onB (M : Int → Option Chg) (cs : List Chg) : Bool := cs.all (onC M)
def sgB (g : SgR) : Bool := segB g.f g.t g.m g.cs
def lnk (base : Int) (gs : List SgR) (k : Nat) : Bool := sgB (gs.getD k sgZ) && decide ((gs.getD k sgZ).f = atK base gs k) && decide (tmK gs k ≤ (gs.getD k sgZ).m) && onB (mpK gs k) (gs.getD k sgZ).cs
def chainB (base : Int) (gs : List SgR) : Bool := decide (gs.length ≤ 4096) && inB 0 999999 base && (List.range gs.length).all (lnk base gs)
def LnTo (base : Int) (gs : List SgR) (k : Nat) : Prop := ∀ j, j < k → lnk base gs j = true
theorem LnTo.zero (base : Int) (gs : List SgR) : LnTo base gs 0 := fun j h => absurd h (by omega)
theorem LnTo.succ {base : Int} {gs : List SgR} {k : Nat} (h : LnTo base gs k) (hk : lnk base gs k = true) : LnTo base gs (k + 1) := fun j hj => by
  rcases Nat.lt_or_ge j k with hlt | hge
  · exact h j hlt
  · obtain rfl : j = k := by omega
    exact hk
theorem LnTo.all {base : Int} {gs : List SgR} (h : LnTo base gs gs.length) (hl : gs.length ≤ 4096) (hb : inB 0 999999 base = true) : chainB base gs = true := by
  unfold chainB
  rw [decide_eq_true hl, hb, List.all_eq_true.2 fun j hj => h j (by simpa using hj)]; rfl
theorem chainB_no {base : Int} {gs : List SgR} {k : Nat} (hk : k < gs.length) (h : lnk base gs k = false) : chainB base gs = false := by
  unfold chainB
  rw [List.all_eq_false.2 ⟨k, by simpa using hk, by rw [h]; simp⟩]; simp
theorem chainB_long {base : Int} {gs : List SgR} (h : ¬ gs.length ≤ 4096) : chainB base gs = false := by
  unfold chainB; rw [decide_eq_false h]; rfl
theorem chainB_base {base : Int} {gs : List SgR} (h : inB 0 999999 base = false) : chainB base gs = false := by
  unfold chainB; rw [h]; simp
theorem lnk_parts {base : Int} {gs : List SgR} {k : Nat} {g : SgR} (hg : gs.getD k sgZ = g) : lnk base gs k = (segB g.f g.t g.m g.cs && decide (g.f = atK base gs k) && decide (tmK gs k ≤ g.m) && onB (mpK gs k) g.cs) := by
  unfold lnk sgB; rw [hg]
theorem onB_no {M : Int → Option Chg} {cs : List Chg} {k : Nat} (hk : k < cs.length) (h : onC M (cs.getD k chZ) = false) : onB M cs = false := by
  unfold onB
  rw [List.all_eq_false]
  rw [List.getD_eq_getElem?_getD, List.getElem?_eq_getElem hk] at h
  exact ⟨cs[k], List.getElem_mem _, by simp only [Option.getD_some] at h; rw [h]; simp⟩
def OnTo (M : Int → Option Chg) (cs : List Chg) (k : Nat) : Prop := ∀ j, j < k → onC M (cs.getD j chZ) = true
theorem OnTo.zero (M : Int → Option Chg) (cs : List Chg) : OnTo M cs 0 := fun j h => absurd h (by omega)
theorem OnTo.succ {M : Int → Option Chg} {cs : List Chg} {k : Nat} (h : OnTo M cs k) (hk : onC M (cs.getD k chZ) = true) : OnTo M cs (k + 1) := fun j hj => by
  rcases Nat.lt_or_ge j k with hlt | hge
  · exact h j hlt
  · obtain rfl : j = k := by omega
    exact hk
theorem OnTo.all {M : Int → Option Chg} {cs : List Chg} (h : OnTo M cs cs.length) : onB M cs = true := List.all_eq_true.2 fun x hx => by
  obtain ⟨j, hj, rfl⟩ := List.mem_iff_getElem.1 hx
  have := h j hj
  rwa [List.getD_eq_getElem?_getD, List.getElem?_eq_getElem hj] at this

set_option maxRecDepth 100000 in
set_option maxHeartbeats 2000000 in
theorem goesOnFrom_c (f t m : Int) (A : Option Addr) (c B b : Nat) (cs : List Chg) (M : Int → Option Chg) (w : World) (h : Chs w B A cs) (hm : MapC w b M) (hB : B ≤ w.heap.size) (hok : chsB cs = true) :
    Calls Try.prog 116 #[.agg #[.int .i64 f, .int .i64 t, .int .i64 m, .slice A cs.length c], .map (some b)] w fun e w' => e = .returned (.bool (onB M cs)) ∧ Nx w w' := by
  have hl8 := chsB_len hok
  have hto := chsB_to hok
  have hbw := hm.lt
  clear hok
  go_enter Try.func116, Try.ntmps116
  go_wp2_with fail
  have hr0 : Nx w (w.alloc (.cells #[.int .i64 f, .int .i64 t, .int .i64 m, .slice A cs.length c] 54)) := (Nx.refl w).alloc _
  generalize w.alloc (.cells #[.int .i64 f, .int .i64 t, .int .i64 m, .slice A cs.length c] 54) = W at *
  go_loopw [12] (fun i wr => ∃ k : Nat, k ≤ cs.length ∧ i = .int .i64 k ∧ OnTo M cs k ∧ Nx w wr) (fun i _ => cs.length - (intOf i).toNat)
  case atStart => exact ⟨0, Nat.zero_le _, rfl, OnTo.zero _ _, hr0⟩
  case round =>
    obtain ⟨k, hk, rfl, hon, hnx⟩ := hrel
    clear hr0
    by_cases hlt : k < cs.length
    · obtain ⟨b', off, rfl, hb, k0, k1, k2⟩ := (h.below hnx hB).at_ hlt
      obtain ⟨hr0, hr1⟩ := hto.rise k hlt
      have HN := Lib.hid (fun (hh : onC M (cs.getD k chZ) = false) => onB_no hlt hh)
      have HY := Lib.hid (fun (hh : onC M (cs.getD k chZ) = true) => hon.succ hh)
      obtain ⟨⟨q0, q1, q2⟩, Hq⟩ : ∃ q, Hid (cs.getD k chZ = q) := ⟨_, rfl⟩
      rw [Hq.out] at k0 k1 k2 hr0 hr1 HN HY
      have hwf := wf_small (q := q0) (by simp only at hr0; omega) hr1
      have hma := (hm.nx hnx).alloc (.cells #[.int .i64 q0, .int .i64 q1, .int .i64 q2] 84)
      have hlk := hma.look hwf
      clear hon
      cases hMk : M q0 with
      | none =>
        rw [hMk] at hlk
        have hlk' : (Instr.lookup 128 (.map (some b)) (.int .i64 q0) true).run Try.prog (wr.alloc (.cells #[.int .i64 q0, .int .i64 q1, .int .i64 q2] 84)) = .ok (.tuple #[.agg #[.int .i64 0, .int .i64 0, .int .i64 0], .bool false]) (wr.alloc (.cells #[.int .i64 q0, .int .i64 q1, .int .i64 q2] 84)) := hlk
        have HM := Lib.hid (HY.out (by unfold onC; rw [hMk]))
        clear hlk hMk HN HY
        go_wp2
        go_roundw
        case rel => exact ⟨k + 1, by omega, by go_num, HM.out, (hnx.alloc _).alloc _⟩
        case measure => simp [intOf]; omega
      | some p =>
        obtain ⟨p0, p1, p2⟩ := p
        rw [hMk] at hlk
        have hlk' : (Instr.lookup 128 (.map (some b)) (.int .i64 q0) true).run Try.prog (wr.alloc (.cells #[.int .i64 q0, .int .i64 q1, .int .i64 q2] 84)) = .ok (.tuple #[.agg #[.int .i64 p0, .int .i64 p1, .int .i64 p2], .bool true]) (wr.alloc (.cells #[.int .i64 q0, .int .i64 q1, .int .i64 q2] 84)) := hlk
        clear hlk
        by_cases hpq : p1 = q2
        · have hd : (p1 != q2) = false := by simp [hpq]
          have HM := Lib.hid (HY.out (by unfold onC; rw [hMk]; simp [hpq]))
          clear hMk HN HY hpq
          go_wp2
          go_roundw
          case rel => exact ⟨k + 1, by omega, by go_num, HM.out, (hnx.alloc _).alloc _⟩
          case measure => simp [intOf]; omega
        · have hd : (p1 != q2) = true := by simp [hpq]
          have HM := Lib.hid (HN.out (by unfold onC; rw [hMk]; simp [hpq]))
          clear hMk HN HY hpq
          go_wp2
          go_ret
          exact ⟨by rw [HM.out]; rfl, (hnx.alloc _).alloc _⟩
    · obtain rfl : k = cs.length := by omega
      have HM := Lib.hid hon.all
      go_wp2
      go_ret
      exact ⟨by rw [HM.out]; rfl, hnx⟩
end Go.Proofs.Ytihpadelfpogmaa
/- Contract of ChainOK, as the program has it. Conditions: the segments can be read, and have at most 1048576 changes each. -/
namespace Go.Proofs.Ytihpadelfpogmaa
set_option linter.unusedVariables false
set_option maxRecDepth 100000
open Go.RowKit

theorem lnk_bad {base : Int} {gs : List SgR} {k : Nat} {f t m : Int} {A : Option Addr} {c : Nat} {cs : List Chg} (hg : gs.getD k sgZ = ⟨f, t, m, A, c, cs⟩)
    (h : segB f t m cs = false ∨ ¬ f = atK base gs k ∨ ¬ tmK gs k ≤ m ∨ onB (mpK gs k) cs = false) : lnk base gs k = false := by
  rw [lnk_parts hg]
  rcases h with h | h | h | h
  · simp only; rw [h]; rfl
  · simp only; rw [decide_eq_false h]; simp
  · simp only; rw [decide_eq_false h]; simp
  · simp only; rw [h]; simp
theorem lnk_yes {base : Int} {gs : List SgR} {k : Nat} {f t m : Int} {A : Option Addr} {c : Nat} {cs : List Chg} (hg : gs.getD k sgZ = ⟨f, t, m, A, c, cs⟩)
    (h1 : segB f t m cs = true) (h2 : f = atK base gs k) (h3 : tmK gs k ≤ m) (h4 : onB (mpK gs k) cs = true) : lnk base gs k = true := by
  rw [lnk_parts hg]
  simp only
  rw [h1, decide_eq_true h2, decide_eq_true h3, h4]; rfl
set_option maxRecDepth 100000 in
set_option maxHeartbeats 4000000 in
theorem implChainOK_c (base : Int) (A : Option Addr) (c B : Nat) (gs : List SgR) (w : World) (h : Sgs w B A gs) (hB : B ≤ w.heap.size) (hn : gs.length ≤ 1048576) (hm : ∀ k, k < gs.length → (gs.getD k sgZ).cs.length ≤ 1048576) :
    Calls Try.prog 54 #[.int .i64 base, .slice A gs.length c] w fun e w' => e = .returned (.bool (chainB base gs)) ∧ Nx w w' := by
  obtain ⟨n, Hn⟩ : ∃ n, Hid (gs.length = n) := ⟨_, rfl⟩
  rw [Hn.out] at hn ⊢
  by_cases hl : n ≤ 4096
  case neg =>
    have HR := Lib.hid (chainB_long (base := base) (gs := gs) (by rw [Hn.out]; exact hl))
    have hd : decide (4096 < (n : Int)) = true := by simp; omega
    go_enter Try.func54, Try.ntmps54
    go_wp2
    go_ret
    exact ⟨by rw [HR.out]; rfl, Nx.refl _⟩
  have hd : decide (4096 < (n : Int)) = false := by simp; omega
  cases hb : inB 0 999999 base
  · have HR := Lib.hid (chainB_base (base := base) (gs := gs) hb)
    have HB := Lib.hid hb
    clear hb
    go_enter Try.func54, Try.ntmps54
    go_wp2_with fail
    refine (isPosition_c base _).mono ?_
    rintro e w1 ⟨rfl, rfl⟩
    rw [HB.out]
    go_wp2
    go_ret
    exact ⟨by rw [HR.out]; rfl, Nx.refl _⟩
  have HB := Lib.hid hb
  clear hb
  have hmm := @run_makeMap Try.prog
  have hmap := MapC.made w
  have hx0 := (Nx.refl w).alloc (.map #[] 0)
  go_enter Try.func54, Try.ntmps54
  go_wp2_with fail
  refine (isPosition_c base _).mono ?_
  rintro e w1 ⟨rfl, rfl⟩
  rw [HB.out]
  go_wp2_with fail
  clear hmm
  generalize w.alloc (.map #[] 0) = W at *
  go_loopw [5, 6, 22] (fun a0 t0 i wr => ∃ k : Nat, k ≤ n ∧ i = .int .i64 k ∧ a0 = .int .i64 (atK base gs k) ∧ t0 = .int .i64 (tmK gs k) ∧ MapC wr w.heap.size (mpK gs k) ∧ LnTo base gs k ∧ Nx w wr) (fun _ _ i _ => n - (intOf i).toNat)
  case atStart => exact ⟨0, Nat.zero_le _, rfl, rfl, rfl, hmap, LnTo.zero _ _, hx0⟩
  case round =>
    obtain ⟨k, hk, rfl, rfl, rfl, hmk, hln, hnx⟩ := hrel
    clear hmap hx0
    by_cases hlt : k < n
    · have hlk : k < gs.length := by rw [Hn.out]; exact hlt
      obtain ⟨b, off, rfl, hb, p0, p1, p2, p3⟩ := (h.below hnx hB).row.at4 hlk
      have hch := (h.below hnx hB).chs k hlk
      have hmk' := hm k hlk
      have HNo := Lib.hid (fun (hh : lnk base gs k = false) => chainB_no hlk hh)
      have HYes := Lib.hid (fun (hh : lnk base gs k = true) => hln.succ hh)
      have HA := Lib.hid (show atK base gs (k + 1) = (gs.getD k sgZ).t from rfl)
      have HT := Lib.hid (show tmK gs (k + 1) = (gs.getD k sgZ).m from rfl)
      have HM := Lib.hid (show mpK gs (k + 1) = noteM (mpK gs k) (gs.getD k sgZ).cs from rfl)
      clear hln
      obtain ⟨⟨f, t, m, A2, cc, cs⟩, Hs⟩ : ∃ s, Hid (gs.getD k sgZ = s) := ⟨_, rfl⟩
      rw [Hs.out] at p0 p1 p2 p3 hch hmk' HA HT HM
      simp only at p0 p1 p2 p3 hch hmk'
      have bG := Box.new wr 54 #[.int .i64 f, .int .i64 t, .int .i64 m, .slice A2 cs.length cc]
      have hxa := (Nx.refl wr).alloc (.cells #[.int .i64 f, .int .i64 t, .int .i64 m, .slice A2 cs.length cc] 54)
      have hmka := hmk.nx hxa
      have hltm := hmk.lt
      obtain ⟨a0, Ha⟩ : ∃ q, Hid (atK base gs k = q) := ⟨_, rfl⟩
      obtain ⟨t0, Ht⟩ : ∃ q, Hid (tmK gs k = q) := ⟨_, rfl⟩
      obtain ⟨M, HMk⟩ : ∃ q, Hid (mpK gs k = q) := ⟨_, rfl⟩
      rw [Ha.out, Ht.out]
      rw [HMk.out] at hmka HM
      have HBad := Lib.hid (fun hh => HNo.out (lnk_bad (base := base) Hs.out hh))
      have HGood := Lib.hid (fun h1 h2 h3 h4 => HYes.out (lnk_yes (base := base) Hs.out h1 h2 h3 h4))
      rw [Ha.out, Ht.out, HMk.out] at HBad HGood
      clear HNo HYes hm
      go_wp2_with fail
      generalize hWa : wr.alloc (.cells #[.int .i64 f, .int .i64 t, .int .i64 m, .slice A2 cs.length cc] 54) = wa at *
      clear hWa p0 p1 p2 p3
      have hnxa := hnx.trans hxa
      have hszB := Nat.le_trans hB hnxa.size
      refine (segRight_c f t m A2 cc B cs _ (hch.below hxa (Nat.le_trans hB hnx.size)) hszB hmk').mono ?_
      rintro e w1 ⟨rfl, hx1⟩
      replace bG := bG.nx hx1
      replace hmka := hmka.nx hx1
      have hch1 := (hch.below hxa (Nat.le_trans hB hnx.size)).below hx1 hszB
      have hX1 := hnxa.trans hx1
      have hszB1 := Nat.le_trans hB hX1.size
      clear hxa hx1 hch hmk
      cases hsb : segB f t m cs
      · have HR := Lib.hid (HBad.out (.inl hsb))
        clear hsb HBad HGood
        go_wp2
        go_ret
        exact ⟨by rw [HR.out]; rfl, hX1⟩
      have hok : chsB cs = true := segB_chs hsb
      have HSB := Lib.hid hsb
      obtain ⟨c0, c1, c2, c3⟩ := bG.d4
      clear hsb
      by_cases hfa : f = a0
      case neg =>
        have HR := Lib.hid (HBad.out (.inr (.inl hfa)))
        have hd1 : (f != a0) = true := by simp [hfa]
        clear HBad HGood hfa
        go_wp2
        go_ret
        exact ⟨by rw [HR.out]; rfl, hX1⟩
      have hd1 : (f != a0) = false := by simp [hfa]
      have HFA := Lib.hid hfa
      clear hfa
      by_cases htm : t0 ≤ m
      case neg =>
        have HR := Lib.hid (HBad.out (.inr (.inr (.inl (by omega)))))
        have hd2 : decide (m < t0) = true := by simp; omega
        clear HBad HGood htm
        go_wp2
        go_ret
        exact ⟨by rw [HR.out]; rfl, hX1⟩
      have hd2 : decide (m < t0) = false := by simp; omega
      have HTM := Lib.hid htm
      clear htm
      go_wp2_with fail
      refine (goesOnFrom_c f t m A2 cc B w.heap.size cs M _ hch1 hmka hszB1 hok).mono ?_
      rintro e w2 ⟨rfl, hx2⟩
      clear c0 c1 c2 c3
      replace bG := bG.nx hx2
      replace hmka := hmka.nx hx2
      have hch2 := hch1.below hx2 hszB1
      have hX2 := hX1.trans hx2
      clear hx2 hch1
      cases hon : onB M cs
      · have HR := Lib.hid (HBad.out (.inr (.inr (.inr hon))))
        clear hon HBad HGood
        go_wp2
        go_ret
        exact ⟨by rw [HR.out]; rfl, hX2⟩
      have HLn := Lib.hid (HGood.out HSB.out HFA.out HTM.out hon)
      clear hon HBad HGood
      obtain ⟨c0, c1, c2, c3⟩ := bG.d4
      go_wp2_with fail
      refine (noteIn_c f t m A2 cc B w.heap.size cs M _ hch2 hmka hB hok).mono ?_
      rintro e w3 ⟨rfl, hm3, hr3⟩
      have bG3 := bG.rg hr3 (by omega)
      have hX3 := Rg.nx_of hX2 hr3 (Nat.le_refl _)
      clear c0 c1 c2 c3
      obtain ⟨c0, c1, c2, c3⟩ := bG3.d4
      go_wp2_with fail
      -- region
      refine wp_region_lex [false, false, false, false, false, false] (fun w' => w'.cell? ⟨wr.heap.size, 1, none⟩ = some (.int .i64 t) ∧ w'.cell? ⟨wr.heap.size, 2, none⟩ = some (.int .i64 m)) (by kernel_rfl) (by kernel_rfl) rfl (by kernel_rfl) (fun _ _ d _ _ h => by cases d <;> exact h) (by exact ⟨c1, c2⟩) ?_
      repeat (first | (refine HL.take (v := ?_) (by rfl) ?_ ?_; rotate_left; (· (intro w hSw; (try dsimp only at hSw); go_simp; try with_reducible rfl)); (try simp only [Act.put, List.setIfInBounds_toArray, List.set_cons_zero, List.set_cons_succ])) | (refine HL.skip (by rfl) ?_; (try simp only [Act.put, List.setIfInBounds_toArray, List.set_cons_zero, List.set_cons_succ])))
      refine HL.done ?_
      -- end
      go_wp2
      go_roundw
      case rel => exact ⟨k + 1, by omega, by go_num, by rw [HA.out], by rw [HT.out], by rw [HM.out]; exact hm3, HLn.out, hX3.drew⟩
      case measure => simp [intOf]; omega
    · obtain rfl : k = n := by omega
      have HR := Lib.hid (LnTo.all (base := base) (gs := gs) (by rw [Hn.out]; exact hln) (by rw [Hn.out]; exact hl) HB.out)
      go_wp2
      go_ret
      exact ⟨by rw [HR.out]; rfl, hnx⟩
end Go.Proofs.Ytihpadelfpogmaa
/- Contract of ChainOK, as the model has it. Conditions: the segments can be read, and have at most 1048576 changes each. -/
namespace Go.Proofs.Ytihpadelfpogmaa
set_option linter.unusedVariables false
set_option maxRecDepth 100000
open Go.RowKit

/-- What was new last of a block, -1 where nothing is known. -/
def lastV (M : Int → Option Chg) (j : Int) : Int := match M j with
  | some c => c.2.1
  | none => -1
def lsAt (M : Int → Option Chg) (i : Nat) : Value := .int .i64 (lastV M (i : Int))
def NonN (M : Int → Option Chg) : Prop := ∀ j c, M j = some c → 0 ≤ c.2.1
theorem OkTo.lt {cs : List Chg} {n : Nat} (h : OkTo cs n) : ∀ j, j < n → ∀ i, i < j → (cs.getD i chZ).1 < (cs.getD j chZ).1 := by
  intro j
  induction j with
  | zero => intro _ i hi; omega
  | succ j ih =>
    intro hj i hi
    have h0 := h (j + 1) hj
    unfold okCh at h0
    simp only [Bool.and_eq_true, Bool.or_eq_true, decide_eq_true_eq, Nat.add_sub_cancel] at h0
    have hlt : (cs.getD j chZ).1 < (cs.getD (j + 1) chZ).1 := by
      rcases h0.2 with h2 | h2
      · simp at h2
      · exact h2
    by_cases e : i = j
    · rw [e]; exact hlt
    · have := ih (by omega) i (by omega)
      omega
theorem noteM_far (M : Int → Option Chg) {cs : List Chg} (h : OkTo cs cs.length) : ∀ k, k ≤ cs.length → ∀ x : Int, (∀ i, i < k → (cs.getD i chZ).1 ≠ x) → noteM M (cs.take k) x = M x := by
  intro k
  induction k with
  | zero => intro _ x _; rfl
  | succ k ih =>
    intro hk x hx
    rw [noteM_succ M cs (by omega)]
    simp only
    rw [if_neg (fun e => hx k (by omega) e.symm)]
    exact ih (by omega) x fun i hi => hx i (by omega)
theorem noteM_at (M : Int → Option Chg) {cs : List Chg} (h : OkTo cs cs.length) {k : Nat} (hk : k < cs.length) : noteM M (cs.take k) (cs.getD k chZ).1 = M (cs.getD k chZ).1 :=
  noteM_far M h k (by omega) _ fun i hi => by have := h.lt k hk i hi; omega
theorem NonN.note {M : Int → Option Chg} (h : NonN M) {cs : List Chg} (hok : OkTo cs cs.length) : ∀ k, k ≤ cs.length → NonN (noteM M (cs.take k)) := by
  intro k
  induction k with
  | zero => intro _; exact h
  | succ k ih =>
    intro hk j c hj
    rw [noteM_succ M cs (by omega)] at hj
    simp only at hj
    by_cases e : j = (cs.getD k chZ).1
    · rw [if_pos e] at hj
      obtain rfl := Option.some.inj hj
      have := hok k (by omega)
      unfold okCh chB at this
      simp only [Bool.and_eq_true] at this
      exact (inB_yes this.1.1.2).1
    · rw [if_neg e] at hj
      exact ih (by omega) j c hj
theorem lnk_yes_parts {base : Int} {gs : List SgR} {k : Nat} (h : lnk base gs k = true) : segB (gs.getD k sgZ).f (gs.getD k sgZ).t (gs.getD k sgZ).m (gs.getD k sgZ).cs = true ∧ (gs.getD k sgZ).f = atK base gs k := by
  unfold lnk sgB at h
  simp only [Bool.and_eq_true, decide_eq_true_eq] at h
  exact ⟨h.1.1.1, h.1.1.2⟩
theorem LnTo.nonN {base : Int} {gs : List SgR} : ∀ k, LnTo base gs k → NonN (mpK gs k)
  | 0, _ => fun j c h => by cases h
  | k + 1, h => by
    have h1 := LnTo.nonN k fun j hj => h j (by omega)
    have h2 := chsB_to (segB_chs (lnk_yes_parts (h k (by omega))).1)
    have h3 := h1.note h2 _ (Nat.le_refl _)
    rw [List.take_length] at h3
    exact h3
theorem segB_range {f t m : Int} {cs : List Chg} (h : segB f t m cs = true) : inB 0 999999 f = true ∧ inB 0 999999 t = true ∧ inB 0 999999 m = true ∧ f < t := by
  unfold segB at h
  simp only [Bool.and_eq_true, decide_eq_true_eq] at h
  exact ⟨h.1.1.1.1, h.1.1.1.2, h.1.2, h.1.1.2⟩
theorem LnTo.end_ {base : Int} {gs : List SgR} {k : Nat} (h : LnTo base gs k) : inB 0 999999 (atK base gs k) = inB 0 999999 base := by
  cases k with
  | zero => rfl
  | succ k =>
    obtain ⟨h1, h2⟩ := lnk_yes_parts (h 0 (by omega))
    have h3 := (segB_range h1).1
    rw [h2] at h3
    rw [show atK base gs (k + 1) = (gs.getD k sgZ).t from rfl, (segB_range (lnk_yes_parts (h k (by omega))).1).2.1]
    exact h3.symm
theorem LnTo.chain {base : Int} {gs : List SgR} (h : LnTo base gs gs.length) (hl : gs.length ≤ 4096) : chainB base gs = inB 0 999999 base := by
  unfold chainB
  rw [decide_eq_true hl, List.all_eq_true.2 fun j hj => h j (by simpa using hj)]; simp
theorem onC_val {M : Int → Option Chg} (h : NonN M) (q0 q1 q2 : Int) : onC M (q0, q1, q2) = (decide (lastV M q0 < 0) || decide (lastV M q0 = q2)) := by
  unfold onC lastV
  cases hM : M q0 with
  | none => simp
  | some c =>
    have := h q0 c hM
    simp only
    rw [decide_eq_false (by omega : ¬ c.2.1 < 0)]; simp
theorem tmK_zero {gs : List SgR} {m : Int} (h : inB 0 999999 m = true) : tmK gs 0 ≤ m := (inB_yes h).1
end Go.Proofs.Ytihpadelfpogmaa
/- Values: contents turned by changes, block by block; changes put together; chains of segments that fit a content. Conditions: none (no memory is spoken of). -/
namespace Go.Proofs.Ytihpadelfpogmaa
set_option linter.unusedVariables false
set_option maxRecDepth 100000
open Go.RowKit

theorem noteM_nil (M : Int → Option Chg) : noteM M [] = M := rfl
theorem noteM_cons (M : Int → Option Chg) (c : Chg) (cs : List Chg) : noteM M (c :: cs) = noteM (fun k => if c.1 = k then some c else M k) cs := rfl
theorem noteM_snoc (M : Int → Option Chg) (cs : List Chg) (c : Chg) (k : Int) : noteM M (cs ++ [c]) k = if c.1 = k then some c else noteM M cs k := by
  unfold noteM; rw [List.foldl_append]; rfl
def Blk (cs : List Chg) : Prop := ∀ c ∈ cs, 0 ≤ c.1 ∧ c.1 ≤ 7
theorem chsB_mem {cs : List Chg} (h : chsB cs = true) : ∀ c ∈ cs, chB c = true := fun c hc => by
  obtain ⟨j, hj, rfl⟩ := List.mem_iff_getElem.1 hc
  have := chsB_to h j hj
  unfold okCh at this
  rw [List.getD_eq_getElem?_getD, List.getElem?_eq_getElem hj] at this
  simp only [Option.getD_some, Bool.and_eq_true] at this
  exact this.1
theorem chB_parts {c : Chg} (h : chB c = true) : (0 ≤ c.1 ∧ c.1 ≤ 7) ∧ (0 ≤ c.2.1 ∧ c.2.1 ≤ 999999) ∧ (0 ≤ c.2.2 ∧ c.2.2 ≤ 999999) := by
  unfold chB at h
  simp only [Bool.and_eq_true] at h
  exact ⟨inB_yes h.1.1, inB_yes h.1.2, inB_yes h.2⟩
theorem chsB_blk {cs : List Chg} (h : chsB cs = true) : Blk cs := fun c hc => (chB_parts (chsB_mem h c hc)).1
theorem app_cons (p : Chg → Int) (xs : List Int) (c : Chg) (cs : List Chg) : app p xs (c :: cs) = app p (xs.set c.1.toNat (p c)) cs := rfl
/-- Block by block. -/
theorem app_at (p : Chg → Int) (d : Nat → Int) : ∀ (cs : List Chg) (xs : List Int) (M : Int → Option Chg), Blk cs → xs.length = 8 → (∀ j : Nat, j < 8 → xs.getD j 0 = ((M (j : Int)).map p).getD (d j)) →
    ∀ j : Nat, j < 8 → (app p xs cs).getD j 0 = ((noteM M cs (j : Int)).map p).getD (d j)
  | [], xs, M, _, _, h, j, hj => h j hj
  | c :: cs, xs, M, hb, hl, h, j, hj => by
    rw [app_cons, noteM_cons]
    obtain ⟨h0, h7⟩ := hb c (by simp)
    refine app_at p d cs _ _ (fun x hx => hb x (by simp [hx])) (by rw [List.length_set]; exact hl) (fun i hi => ?_) j hj
    by_cases e : c.1 = (i : Int)
    · rw [if_pos e, show c.1.toNat = i by omega, getD_set_self (by omega)]; rfl
    · rw [if_neg e, getD_set_ne (by omega)]; exact h i hi
theorem app_at0 (p : Chg → Int) {cs : List Chg} {xs : List Int} (hb : Blk cs) (hl : xs.length = 8) {j : Nat} (hj : j < 8) : (app p xs cs).getD j 0 = ((noteM noM cs (j : Int)).map p).getD (xs.getD j 0) :=
  app_at p (fun j => xs.getD j 0) cs xs noM hb hl (fun i _ => rfl) j hj
theorem ext8 {xs ys : List Int} (h : xs.length = 8) (h2 : ys.length = 8) (he : ∀ j, j < 8 → xs.getD j 0 = ys.getD j 0) : xs = ys := List.ext_getElem (by omega) fun j h3 h4 => by
  have := he j (by omega)
  rw [List.getD_eq_getElem?_getD, List.getD_eq_getElem?_getD, List.getElem?_eq_getElem h3, List.getElem?_eq_getElem h4] at this
  exact this
/-- What was old is what is there. -/
def Fits (x : List Int) (cs : List Chg) : Prop := ∀ j : Nat, j < 8 → ∀ c, noteM noM cs (j : Int) = some c → c.2.2 = x.getD j 0
def Agree (M : Int → Option Chg) (x : List Int) : Prop := ∀ j : Nat, j < 8 → ∀ c, M (j : Int) = some c → c.2.1 = x.getD j 0
/-- What is undone is as it was. -/
theorem undo_ {x : List Int} {cs : List Chg} (hl : x.length = 8) (hb : Blk cs) (hf : Fits x cs) : app pO (app pN x cs) cs = x := by
  refine ext8 (by rw [app_len, app_len]; exact hl) hl fun j hj => ?_
  rw [app_at0 pO hb (by rw [app_len]; exact hl) hj]
  cases h : noteM noM cs (j : Int) with
  | none => rw [app_at0 pN hb hl hj, h]; rfl
  | some c => exact hf j hj c h
theorem Agree.note {M : Int → Option Chg} {x : List Int} {cs : List Chg} (h : Agree M x) (hl : x.length = 8) (hb : Blk cs) : Agree (noteM M cs) (app pN x cs) := fun j hj c hc => by
  have := app_at pN (fun j => x.getD j 0) cs x M hb hl (fun i hi => by
    cases hM : M (i : Int) with
    | none => rfl
    | some d => exact (h i hi d hM).symm) j hj
  rw [this, hc]; rfl
theorem noteM_mem {cs : List Chg} (h : chsB cs = true) {c : Chg} (hc : c ∈ cs) : noteM noM cs c.1 = some c := by
  obtain ⟨k, hk, rfl⟩ := List.mem_iff_getElem.1 hc
  have hto := chsB_to h
  have e : cs.getD k chZ = cs[k] := by rw [List.getD_eq_getElem?_getD, List.getElem?_eq_getElem hk]; rfl
  have step : ∀ n, k < n → n ≤ cs.length → noteM noM (cs.take n) cs[k].1 = some cs[k] := by
    intro n
    induction n with
    | zero => intro h1; omega
    | succ n ih =>
      intro h1 h2
      rw [noteM_succ noM cs (by omega)]
      simp only
      by_cases hn : k = n
      · subst hn
        rw [e, if_pos rfl]
      · have h3 := hto.lt n (by omega) k (by omega)
        rw [e] at h3
        rw [if_neg (by omega)]
        exact ih (by omega) (by omega)
  have := step cs.length hk (Nat.le_refl _)
  rwa [List.take_length] at this
theorem on_of {M : Int → Option Chg} {x : List Int} {cs : List Chg} (hA : Agree M x) (hok : chsB cs = true) (hf : Fits x cs) : onB M cs = true := List.all_eq_true.2 fun c hc => by
  obtain ⟨h0, h7⟩ := chsB_blk hok c hc
  have hm := noteM_mem hok hc
  unfold onC
  cases hM : M c.1 with
  | none => rfl
  | some a =>
    simp only
    rw [decide_eq_true_eq]
    have hj : ((c.1.toNat : Nat) : Int) = c.1 := by omega
    have h1 := hA c.1.toNat (by omega) a (by rw [hj]; exact hM)
    have h2 := hf c.1.toNat (by omega) c (by rw [hj]; exact hm)
    rw [h1, h2]
/-- A map whose entries stand at their blocks, and are right. -/
def Right (M : Int → Option Chg) : Prop := ∀ (j : Nat), j < 8 → ∀ c, M (j : Int) = some c → c.1 = (j : Int) ∧ chB c = true
theorem chsB_snoc {cs : List Chg} {c : Chg} (h : chsB cs = true) (hc : chB c = true) (hlt : ∀ d ∈ cs, d.1 < c.1) : chsB (cs ++ [c]) = true := OkTo.all fun j hj => by
  have hto := chsB_to h
  rw [List.length_append] at hj
  simp only [List.length_cons, List.length_nil] at hj
  unfold okCh
  by_cases hjl : j < cs.length
  · have e : ∀ i, i ≤ j → (cs ++ [c]).getD i chZ = cs.getD i chZ := fun i hi => by
      rw [List.getD_eq_getElem?_getD, List.getD_eq_getElem?_getD, List.getElem?_append_left (by omega)]
    rw [e j (Nat.le_refl _), e (j - 1) (by omega)]
    exact hto j hjl
  · obtain rfl : j = cs.length := by omega
    have e : (cs ++ [c]).getD cs.length chZ = c := by rw [List.getD_eq_getElem?_getD, List.getElem?_append_right (Nat.le_refl _)]; simp
    rw [e, hc]
    by_cases h0 : cs.length = 0
    · rw [h0]; rfl
    · have e1 : (cs ++ [c]).getD (cs.length - 1) chZ = cs[cs.length - 1] := by
        rw [List.getD_eq_getElem?_getD, List.getElem?_append_left (by omega), List.getElem?_eq_getElem (by omega)]; rfl
      rw [e1, decide_eq_true (hlt _ (List.getElem_mem _))]; simp
theorem ris_right {M : Int → Option Chg} (h : Right M) : ∀ k, k ≤ 8 → chsB (risM M k) = true ∧ (∀ d ∈ risM M k, d.1 < (k : Int)) ∧ ∀ j : Nat, noteM noM (risM M k) (j : Int) = if j < k then M (j : Int) else none
  | 0, _ => ⟨rfl, (fun d hd => by cases hd), (fun j => by rw [if_neg (by omega)]; rfl)⟩
  | k + 1, hk => by
    obtain ⟨h1, h2, h3⟩ := ris_right h k (by omega)
    rw [risM_succ]
    cases hM : M (k : Int) with
    | none =>
      simp only [Option.toList_none, List.append_nil]
      refine ⟨h1, fun d hd => by have := h2 d hd; omega, fun j => ?_⟩
      rw [h3 j]
      by_cases e : j = k
      · subst e; rw [if_neg (by omega), if_pos (by omega), hM]
      · by_cases e2 : j < k
        · rw [if_pos e2, if_pos (by omega)]
        · rw [if_neg e2, if_neg (by omega)]
    | some c =>
      obtain ⟨hc1, hc2⟩ := h k (by omega) c hM
      simp only [Option.toList_some]
      refine ⟨chsB_snoc h1 hc2 fun d hd => by have := h2 d hd; omega, fun d hd => ?_, fun j => ?_⟩
      · rcases List.mem_append.1 hd with hd | hd
        · have := h2 d hd; omega
        · simp only [List.mem_singleton] at hd; subst hd; omega
      · rw [noteM_snoc, h3 j]
        by_cases e : j = k
        · subst e; rw [if_pos hc1, if_pos (by omega), hM]
        · rw [if_neg (by omega)]
          by_cases e2 : j < k
          · rw [if_pos e2, if_pos (by omega)]
          · rw [if_neg e2, if_neg (by omega)]
theorem note_right {cs : List Chg} (h : chsB cs = true) : Right (noteM noM cs) := fun j hj c hc => by
  have key : ∀ (l : List Chg) (M : Int → Option Chg), (∀ d ∈ l, chB d = true) → (∀ k d, M k = some d → d.1 = k ∧ chB d = true) → ∀ k d, noteM M l k = some d → d.1 = k ∧ chB d = true := by
    intro l
    induction l with
    | nil => intro M _ h2; exact h2
    | cons a l ih =>
      intro M h1 h2 k d hd
      rw [noteM_cons] at hd
      refine ih _ (fun x hx => h1 x (by simp [hx])) (fun k' d' hd' => ?_) k d hd
      by_cases e : a.1 = k'
      · rw [if_pos e] at hd'
        obtain rfl := Option.some.inj hd'
        exact ⟨e, h1 a (by simp)⟩
      · rw [if_neg e] at hd'
        exact h2 k' d' hd'
  exact key cs noM (chsB_mem h) (fun k d hd => by cases hd) _ c hc
theorem app_cont {x : List Int} {cs : List Chg} (hx : contB x = true) (h : chsB cs = true) : contB (app pN x cs) = true := by
  obtain ⟨h8, hv⟩ := contB_yes hx
  refine contB_mk (by rw [app_len]; exact h8) fun j hj => ?_
  rw [app_len, h8] at hj
  rw [app_at0 pN (chsB_blk h) h8 hj]
  cases hM : noteM noM cs (j : Int) with
  | none => have := hv j hj; exact inB_mk this.1 this.2
  | some c => have := (chB_parts (note_right h j hj c hM).2).2.1; exact inB_mk this.1 this.2
theorem fits_one (x : List Int) (b : Nat) (v : Int) : Fits x [((b : Int), v, x.getD b 0)] := fun j hj c hc => by
  have h1 : (if (b : Int) = (j : Int) then some ((b : Int), v, x.getD b 0) else none) = some c := hc
  by_cases e : (b : Int) = (j : Int)
  · rw [if_pos e] at h1
    obtain rfl := Option.some.inj h1
    show x.getD b 0 = x.getD j 0
    rw [show b = j by omega]
  · rw [if_neg e] at h1; cases h1
/-- A write put together with what was ahead of it. -/
theorem mrg_one {x : List Int} {l1 : List Chg} (hx : contB x = true) (h1 : chsB l1 = true) (hf : Fits x l1) {b : Nat} (hb : b < 8) {v o : Int} (hv0 : 0 ≤ v) (hv1 : v ≤ 999999) (ho : (app pN x l1).getD b 0 = o) :
    chsB (mrgC l1 [((b : Int), v, o)]) = true ∧ app pN x (mrgC l1 [((b : Int), v, o)]) = app pN (app pN x l1) [((b : Int), v, o)] ∧ Fits x (mrgC l1 [((b : Int), v, o)]) := by
  have h8 := (contB_yes hx).1
  have hM : ∀ j : Nat, mgM (noteM noM l1) [((b : Int), v, o)] (j : Int) = if (b : Int) = (j : Int) then some ((b : Int), v, ((noteM noM l1 (j : Int)).getD ((b : Int), v, o)).2.2) else noteM noM l1 (j : Int) := fun j => rfl
  have ho2 := (contB_yes (app_cont hx h1)).2 b hb
  rw [ho] at ho2
  have hr := note_right h1
  have hR : Right (mgM (noteM noM l1) [((b : Int), v, o)]) := fun j hj c hc => by
    rw [hM j] at hc
    by_cases e : (b : Int) = (j : Int)
    · rw [if_pos e] at hc
      obtain rfl := Option.some.inj hc
      refine ⟨e, ?_⟩
      cases hN : noteM noM l1 (j : Int) with
      | none => exact chB_mk (by omega) (by omega) hv0 hv1 ho2.1 ho2.2
      | some d => have := (chB_parts (hr j hj d hN).2).2.2; exact chB_mk (by omega) (by omega) hv0 hv1 this.1 this.2
    · rw [if_neg e] at hc
      exact hr j hj c hc
  obtain ⟨q1, _, q3⟩ := ris_right hR 8 (Nat.le_refl _)
  replace q1 : chsB (mrgC l1 [((b : Int), v, o)]) = true := q1
  have q4 : ∀ j : Nat, j < 8 → noteM noM (mrgC l1 [((b : Int), v, o)]) (j : Int) = if (b : Int) = (j : Int) then some ((b : Int), v, ((noteM noM l1 (j : Int)).getD ((b : Int), v, o)).2.2) else noteM noM l1 (j : Int) := fun j hj => by
    have := q3 j
    rw [if_pos hj, hM j] at this
    exact this
  refine ⟨q1, ext8 (by rw [app_len]; exact h8) (by rw [app_len, app_len]; exact h8) fun j hj => ?_, fun j hj c hc => ?_⟩
  · rw [app_at0 pN (chsB_blk q1) h8 hj, q4 j hj, app_one]
    by_cases e : (b : Int) = (j : Int)
    · obtain rfl : b = j := by omega
      rw [if_pos rfl, getD_set_self (by rw [app_len]; omega)]; rfl
    · rw [if_neg e, getD_set_ne (by omega), app_at0 pN (chsB_blk h1) h8 hj]
  · rw [q4 j hj] at hc
    by_cases e : (b : Int) = (j : Int)
    · obtain rfl : b = j := by omega
      rw [if_pos rfl] at hc
      obtain rfl := Option.some.inj hc
      cases hN : noteM noM l1 (b : Int) with
      | none =>
        show o = x.getD b 0
        rw [← ho, app_at0 pN (chsB_blk h1) h8 hj, hN]; rfl
      | some d => exact hf b hj d hN
    · rw [if_neg e] at hc
      exact hf j hj c hc
/-- The content behind the first k. -/
def ctK (c0 : List Int) (gs : List SgR) : Nat → List Int
  | 0 => c0
  | k + 1 => app pN (ctK c0 gs k) (gs.getD k sgZ).cs
/-- A segment that goes on at place k. -/
structure Lk (base : Int) (c0 : List Int) (gs : List SgR) (k : Nat) (g : SgR) : Prop where
  seg : segB g.f g.t g.m g.cs = true
  at_ : g.f = atK base gs k
  tm : tmK gs k ≤ g.m
  fit : Fits (ctK c0 gs k) g.cs
/-- A chain that leads on from a content. -/
def ChI (base : Int) (c0 : List Int) (gs : List SgR) : Prop := ∀ k, k < gs.length → Lk base c0 gs k (gs.getD k sgZ)
theorem getD_pre (gs hs : List SgR) {k : Nat} (h : k < gs.length) : (gs ++ hs).getD k sgZ = gs.getD k sgZ := by
  rw [List.getD_eq_getElem?_getD, List.getD_eq_getElem?_getD, List.getElem?_append_left h]
theorem atK_pre (base : Int) (gs hs : List SgR) : ∀ k, k ≤ gs.length → atK base (gs ++ hs) k = atK base gs k
  | 0, _ => rfl
  | k + 1, h => by show ((gs ++ hs).getD k sgZ).t = (gs.getD k sgZ).t; rw [getD_pre gs hs (by omega)]
theorem tmK_pre (gs hs : List SgR) : ∀ k, k ≤ gs.length → tmK (gs ++ hs) k = tmK gs k
  | 0, _ => rfl
  | k + 1, h => by show ((gs ++ hs).getD k sgZ).m = (gs.getD k sgZ).m; rw [getD_pre gs hs (by omega)]
theorem ctK_pre (c0 : List Int) (gs hs : List SgR) : ∀ k, k ≤ gs.length → ctK c0 (gs ++ hs) k = ctK c0 gs k
  | 0, _ => rfl
  | k + 1, h => by
    show app pN (ctK c0 (gs ++ hs) k) ((gs ++ hs).getD k sgZ).cs = app pN (ctK c0 gs k) (gs.getD k sgZ).cs
    rw [getD_pre gs hs (by omega), ctK_pre c0 gs hs k (by omega)]
theorem Lk.pre {base : Int} {c0 : List Int} {gs : List SgR} {k : Nat} {g : SgR} (hs : List SgR) (hk : k ≤ gs.length) (h : Lk base c0 gs k g) : Lk base c0 (gs ++ hs) k g :=
  ⟨h.seg, by rw [atK_pre base gs hs k hk]; exact h.at_, by rw [tmK_pre gs hs k hk]; exact h.tm, by rw [ctK_pre c0 gs hs k hk]; exact h.fit⟩
theorem Lk.unpre {base : Int} {c0 : List Int} {gs hs : List SgR} {k : Nat} {g : SgR} (hk : k ≤ gs.length) (h : Lk base c0 (gs ++ hs) k g) : Lk base c0 gs k g :=
  ⟨h.seg, by rw [← atK_pre base gs hs k hk]; exact h.at_, by rw [← tmK_pre gs hs k hk]; exact h.tm, by rw [← ctK_pre c0 gs hs k hk]; exact h.fit⟩
theorem ChI.nil (base : Int) (c0 : List Int) : ChI base c0 [] := fun k hk => absurd hk (by simp)
theorem ChI.snoc {base : Int} {c0 : List Int} {gs : List SgR} {g : SgR} (h : ChI base c0 gs) (hg : Lk base c0 gs gs.length g) : ChI base c0 (gs ++ [g]) := fun k hk => by
  rw [List.length_append] at hk
  simp only [List.length_cons, List.length_nil] at hk
  by_cases e : k < gs.length
  · rw [getD_pre gs [g] e]; exact (h k e).pre [g] (by omega)
  · obtain rfl : k = gs.length := by omega
    rw [getD_app]; exact hg.pre [g] (Nat.le_refl _)
theorem ChI.init {base : Int} {c0 : List Int} {gs : List SgR} {g : SgR} (h : ChI base c0 (gs ++ [g])) : ChI base c0 gs ∧ Lk base c0 gs gs.length g := by
  refine ⟨fun k hk => ?_, ?_⟩
  · have := h k (by rw [List.length_append]; omega)
    rw [getD_pre gs [g] hk] at this
    exact this.unpre (by omega)
  · have := h gs.length (by rw [List.length_append]; simp)
    rw [getD_app] at this
    exact this.unpre (Nat.le_refl _)
theorem end_snoc (base : Int) (c0 : List Int) (gs : List SgR) (g : SgR) : atK base (gs ++ [g]) (gs.length + 1) = g.t ∧ tmK (gs ++ [g]) (gs.length + 1) = g.m ∧ ctK c0 (gs ++ [g]) (gs.length + 1) = app pN (ctK c0 gs gs.length) g.cs := by
  refine ⟨?_, ?_, ?_⟩
  · show ((gs ++ [g]).getD gs.length sgZ).t = _
    rw [getD_app]
  · show ((gs ++ [g]).getD gs.length sgZ).m = _
    rw [getD_app]
  · show app pN (ctK c0 (gs ++ [g]) gs.length) ((gs ++ [g]).getD gs.length sgZ).cs = _
    rw [getD_app, ctK_pre c0 gs [g] _ (Nat.le_refl _)]
theorem ChI.cont {base : Int} {c0 : List Int} {gs : List SgR} (h : ChI base c0 gs) (hc : contB c0 = true) : ∀ k, k ≤ gs.length → contB (ctK c0 gs k) = true
  | 0, _ => hc
  | k + 1, hk => app_cont (h.cont hc k (by omega)) (segB_chs (h k (by omega)).seg)
theorem ChI.agree {base : Int} {c0 : List Int} {gs : List SgR} (h : ChI base c0 gs) (hc : contB c0 = true) : ∀ k, k ≤ gs.length → Agree (mpK gs k) (ctK c0 gs k)
  | 0, _ => fun j _ c hh => by cases hh
  | k + 1, hk => (h.agree hc k (by omega)).note (contB_yes (h.cont hc k (by omega))).1 (chsB_blk (segB_chs (h k (by omega)).seg))
/-- Such a chain is one. -/
theorem ChI.chain {base : Int} {c0 : List Int} {gs : List SgR} (h : ChI base c0 gs) (hc : contB c0 = true) (hb : inB 0 999999 base = true) (hl : gs.length ≤ 4096) : chainB base gs = true :=
  LnTo.all (fun k hk => by
    have L := h k hk
    unfold lnk sgB
    rw [L.seg, decide_eq_true L.at_, decide_eq_true L.tm, on_of (h.agree hc k (by omega)) (segB_chs L.seg) L.fit]; rfl) hl hb
theorem ChI.undo {base : Int} {c0 : List Int} {gs : List SgR} (h : ChI base c0 gs) (hc : contB c0 = true) {k : Nat} (hk : k < gs.length) : app pO (ctK c0 gs (k + 1)) (gs.getD k sgZ).cs = ctK c0 gs k :=
  undo_ (contB_yes (h.cont hc k (by omega))).1 (chsB_blk (segB_chs (h k hk).seg)) (h k hk).fit
end Go.Proofs.Ytihpadelfpogmaa
/- Words on marks and supers: lists of marks in memory; contracts of the laws' functions that count, make and compare them; a super that comes in, opened. Conditions: what is counted, copied or compared can be read; copied and compared: it has at most 1048576 elements of a kind. -/
namespace Go.Proofs.Ytihpadelfpogmaa
set_option linter.unusedVariables false
set_option maxRecDepth 100000
open Go.Joins Go.ChangeShapes Go.WideShapes Go.RowKit Go.Deep

/-- A mark: its name, its position. -/
abbrev Mrk := ByteArray × Int
def mrZ : Mrk := (ByteArray.empty, 0)
def mrAt (ms : List Mrk) (i : Nat) : Value := if i % 2 = 0 then .string (ms.getD (i / 2) mrZ).1 else .int .i64 (ms.getD (i / 2) mrZ).2
theorem mrAt0 (ms : List Mrk) (k : Nat) : mrAt ms (k * 2) = .string (ms.getD k mrZ).1 := by
  unfold mrAt; rw [if_pos (by omega), show k * 2 / 2 = k by omega]
theorem mrAt1 (ms : List Mrk) (k : Nat) : mrAt ms (k * 2 + 1) = .int .i64 (ms.getD k mrZ).2 := by
  unfold mrAt; rw [if_neg (by omega), show (k * 2 + 1) / 2 = k by omega]
/-- A list of marks that is read. -/
def Mks (w : World) (B : Nat) (A : Option Addr) (ms : List Mrk) : Prop := Row w B A (ms.length * 2) (mrAt ms)
theorem Mks.below {w w' : World} {B B' : Nat} {A : Option Addr} {ms : List Mrk} (h : Mks w B A ms) (hb : Below B' w w') (hB : B ≤ B') : Mks w' B A ms := Row.below h hb hB
theorem Mks.more {w : World} {B B' : Nat} {A : Option Addr} {ms : List Mrk} (h : Mks w B A ms) (hB : B ≤ B') : Mks w B' A ms := Row.more h hB
theorem Mks.at_ {w : World} {B k : Nat} {A : Option Addr} {ms : List Mrk} (h : Mks w B A ms) (hk : k < ms.length) :
    ∃ b off, A = some ⟨b, off, none⟩ ∧ b < B ∧ w.cell? ⟨b, off + k * 2, none⟩ = some (.string (ms.getD k mrZ).1) ∧ w.cell? ⟨b, off + k * 2 + 1, none⟩ = some (.int .i64 (ms.getD k mrZ).2) := by
  obtain ⟨b, off, e, hb, hc⟩ := h (by omega)
  have h0 := hc (k * 2) (by omega)
  have h1 := hc (k * 2 + 1) (by omega)
  rw [mrAt0] at h0
  rw [mrAt1] at h1
  exact ⟨b, off, e, hb, h0, h1⟩
/-- A list of marks in a block of the call's own. -/
abbrev SlM (w : World) (lo : Nat) (A : Option Addr) (ms : List Mrk) : Prop := Sl w lo A 87 (ms.length * 2) (mrAt ms)
def RetM (w : World) (ms : List Mrk) (e : Ending) (w' : World) : Prop := ∃ (A : Option Addr) (c : Nat), e = .returned (.slice A ms.length c) ∧ SlM w' w.heap.size A ms ∧ Nx w w'
/-- What a function leaves that answers a super in new memory. -/
def RetU (w : World) (g b p t : Int) (xs : List Int) (ms : List Mrk) (e : Ending) (w' : World) : Prop :=
  ∃ (A : Option Addr) (c : Nat) (A2 : Option Addr) (c2 : Nat), e = .returned (.agg #[.int .i64 g, .int .i64 b, .int .i64 p, .int .i64 t, .slice A xs.length c, .slice A2 ms.length c2]) ∧ xs.length ≤ c ∧ SlI w' w.heap.size A xs ∧ SlM w' w.heap.size A2 ms ∧ Nx w w'
theorem Box.d6 {w : World} {g : Nat} {t : TypeId} {v0 v1 v2 v3 v4 v5 : Value} (h : Box w g t #[v0, v1, v2, v3, v4, v5]) :
    w.cell? ⟨g, 0, none⟩ = some v0 ∧ w.cell? ⟨g, 1, none⟩ = some v1 ∧ w.cell? ⟨g, 2, none⟩ = some v2 ∧ w.cell? ⟨g, 3, none⟩ = some v3 ∧ w.cell? ⟨g, 4, none⟩ = some v4 ∧ w.cell? ⟨g, 5, none⟩ = some v5 :=
  ⟨h.cell 0, h.cell 1, h.cell 2, h.cell 3, h.cell 4, h.cell 5⟩

def lenM (ms : List Mrk) : Nat := (ms.map fun x => x.1.size).sum
def lenMTo (ms : List Mrk) (k : Nat) : Nat := ((ms.map fun x => x.1.size).take k).sum
theorem lenMTo_zero (ms : List Mrk) : lenMTo ms 0 = 0 := rfl
theorem lenMTo_le (ms : List Mrk) (k : Nat) : lenMTo ms k ≤ lenM ms := sum_take_le _ _
theorem lenMTo_all (ms : List Mrk) : lenMTo ms ms.length = lenM ms := by
  unfold lenMTo lenM; rw [List.take_of_length_le (by simp)]
theorem lenMTo_succ (ms : List Mrk) (k : Nat) (h : k < ms.length) : lenMTo ms (k + 1) = lenMTo ms k + (ms.getD k mrZ).1.size := by
  unfold lenMTo
  rw [sum_take_succ _ _ (by simpa using h), List.getD_eq_getElem?_getD, List.getElem?_eq_getElem h]; simp
def AllM (ms : List Mrk) : Prop := ∀ k, (ms.getD k mrZ).1.size ≤ 2 ^ 63 - 1

set_option maxRecDepth 100000 in
set_option maxHeartbeats 1000000 in
theorem szIntS_c (A : Option Addr) (n c : Nat) (left : Int) (w : World) (hn : n ≤ 2 ^ 63 - 1) (h0 : 0 ≤ left) (h1 : left ≤ 1048576) :
    Calls Try.prog 62 #[.slice A n c, .int .i64 left] w fun e w' => e = .returned (.int .i64 (szR left n)) ∧ w = w' := by
  by_cases hle : (n : Int) ≤ left
  · have HF := Lib.hid (szR_yes hle)
    have hd : decide (left - (n : Int) < 0) = false := by simp; omega
    go_enter Try.func62, Try.ntmps62
    go_wp2
    go_ret
    exact ⟨ret_int HF.out, rfl⟩
  · have HF := Lib.hid (szR_no (left := left) (cost := n) (by omega))
    have hd : decide (left - (n : Int) < 0) = true := by simp; omega
    go_enter Try.func62, Try.ntmps62
    go_wp2
    go_ret
    exact ⟨ret_int HF.out, rfl⟩
set_option maxRecDepth 100000 in
set_option maxHeartbeats 1000000 in
theorem szMark_c (a : Int) (s : ByteArray) (left : Int) (w : World) (hm : s.size ≤ 2 ^ 63 - 1) (h0 : 0 ≤ left) (h1 : left ≤ 1048576) :
    Calls Try.prog 142 #[.agg #[.string s, .int .i64 a], .int .i64 left] w fun e w' => e = .returned (.int .i64 (szR left s.size)) ∧ Nx w w' := by
  by_cases hle : (s.size : Int) ≤ left
  · have HF := Lib.hid (szR_yes hle)
    have hd : decide (left - (s.size : Int) < 0) = false := by simp; omega
    go_enter Try.func142, Try.ntmps142
    go_wp2
    go_ret
    exact ⟨ret_int HF.out, (Nx.refl _).alloc _⟩
  · have HF := Lib.hid (szR_no (left := left) (cost := s.size) (by omega))
    have hd : decide (left - (s.size : Int) < 0) = true := by simp; omega
    go_enter Try.func142, Try.ntmps142
    go_wp2
    go_ret
    exact ⟨ret_int HF.out, (Nx.refl _).alloc _⟩
set_option maxRecDepth 100000 in
set_option maxHeartbeats 1000000 in
theorem szMarkS_c (A : Option Addr) (c B : Nat) (ms : List Mrk) (left : Int) (w : World) (h : Mks w B A ms) (hB : B ≤ w.heap.size) (hm : AllM ms) (hn : ms.length ≤ 2 ^ 63 - 1) (h0 : 0 ≤ left) (h1 : left ≤ 1048576) :
    Calls Try.prog 98 #[.slice A ms.length c, .int .i64 left] w fun e w' => e = .returned (.int .i64 (szR left (ms.length + lenM ms))) ∧ Nx w w' := by
  by_cases hle : (ms.length : Int) ≤ left
  case neg =>
    have HF := Lib.hid (szR_no (left := left) (cost := ms.length + lenM ms) (by omega))
    have hd : decide (left - (ms.length : Int) < 0) = true := by simp; omega
    go_enter Try.func98, Try.ntmps98
    go_wp2
    go_ret
    exact ⟨ret_int HF.out, Nx.refl _⟩
  have hd : decide (left - (ms.length : Int) < 0) = false := by simp; omega
  go_enter Try.func98, Try.ntmps98
  go_wp2
  go_loopw [1, 5] (fun l i wr => ∃ k : Nat, k ≤ ms.length ∧ i = .int .i64 k ∧ (ms.length : Int) + lenMTo ms k ≤ left ∧ l = .int .i64 (left - (ms.length + lenMTo ms k)) ∧ Nx w wr) (fun _ i _ => ms.length - (intOf i).toNat)
  case atStart => exact ⟨0, Nat.zero_le _, rfl, by rw [lenMTo_zero]; omega, by rw [lenMTo_zero]; go_num, Nx.refl _⟩
  case round =>
    obtain ⟨k, hk, rfl, hle2, rfl, hnx⟩ := hrel
    by_cases hlt : k < ms.length
    · obtain ⟨b, off, rfl, hb, hc0, hc1⟩ := (h.below hnx hB).at_ hlt
      have hmk := hm k
      have hsu := Lib.hid (lenMTo_succ ms k hlt)
      have hle3 := Lib.hid (lenMTo_le ms (k + 1))
      generalize ms.getD k mrZ = s at *
      obtain ⟨s, a⟩ := s
      by_cases hg : (ms.length : Int) + (lenMTo ms k + s.size) ≤ left
      · have hd2 : decide (left - (ms.length + lenMTo ms k) - (s.size : Int) < 0) = false := by simp; omega
        go_wp2_with fail
        refine (szMark_c a s _ _ hmk (by omega) (by omega)).mono ?_
        rintro e w1 ⟨rfl, hnx1⟩
        rw [← szR_yes (by omega)]
        go_wp2
        go_roundw
        case rel => exact ⟨k + 1, by omega, by go_num, by rw [hsu.out]; omega, by rw [hsu.out]; go_num, hnx.trans hnx1⟩
        case measure => simp [intOf]; omega
      · go_wp2_with fail
        refine (szMark_c a s _ _ hmk (by omega) (by omega)).mono ?_
        rintro e w1 ⟨rfl, hnx1⟩
        rw [← szR_no (by omega)]
        go_wp2
        go_ret
        exact ⟨ret_int (szR_no (by have := hsu.out; have := hle3.out; omega)), hnx.trans hnx1⟩
    · obtain rfl : k = ms.length := by omega
      go_wp2
      go_ret
      refine ⟨ret_int ?_, hnx⟩
      have := lenMTo_all ms
      rw [this] at hle2 ⊢
      exact szR_yes hle2
def costU (xs : List Int) (ms : List Mrk) : Int := xs.length + (ms.length + lenM ms)
set_option maxRecDepth 100000 in
set_option maxHeartbeats 1000000 in
theorem szSuper_c (g b p t : Int) (A A2 : Option Addr) (c c2 B : Nat) (xs : List Int) (ms : List Mrk) (left : Int) (w : World) (h2 : Mks w B A2 ms) (hB : B ≤ w.heap.size) (hm : AllM ms)
    (hn : xs.length ≤ 2 ^ 63 - 1) (hn2 : ms.length ≤ 2 ^ 63 - 1) (h0 : 0 ≤ left) (h1 : left ≤ 1048576) :
    Calls Try.prog 38 #[.agg #[.int .i64 g, .int .i64 b, .int .i64 p, .int .i64 t, .slice A xs.length c, .slice A2 ms.length c2], .int .i64 left] w fun e w' => e = .returned (.int .i64 (szR left (costU xs ms))) ∧ Nx w w' := by
  by_cases hle : (xs.length : Int) ≤ left
  case neg =>
    have HF := Lib.hid (szR_no (left := left) (cost := costU xs ms) (by unfold costU; omega))
    go_enter Try.func38, Try.ntmps38
    go_wp2_with fail
    refine (szIntS_c A xs.length c left _ hn h0 h1).mono ?_
    rintro e w1 ⟨rfl, rfl⟩
    rw [← szR_no (by omega)]
    go_wp2
    go_ret
    exact ⟨ret_int HF.out, (Nx.refl _).alloc _⟩
  go_enter Try.func38, Try.ntmps38
  go_wp2_with fail
  refine (szIntS_c A xs.length c left _ hn h0 h1).mono ?_
  rintro e w1 ⟨rfl, rfl⟩
  rw [← szR_yes hle]
  have hd : decide (left - (xs.length : Int) < 0) = false := by simp; omega
  go_wp2_with fail
  refine (szMarkS_c A2 c2 B ms _ _ (h2.below ((Nx.refl w).alloc _) hB) (Nat.le_trans hB (by simp)) hm hn2 (by omega) (by omega)).mono ?_
  rintro e w1 ⟨rfl, hnx⟩
  by_cases hle2 : (ms.length : Int) + lenM ms ≤ left - xs.length
  · rw [← szR_yes hle2]
    have hd : decide (left - (xs.length : Int) - (ms.length + lenM ms) < 0) = false := by simp; omega
    go_wp2
    go_ret
    refine ⟨ret_int ?_, ((Nx.refl _).alloc _).trans hnx⟩
    rw [← szR_yes (by unfold costU; omega)]
    unfold costU
    omega
  · rw [← szR_no (by omega)]
    go_wp2
    go_ret
    exact ⟨ret_int (szR_no (by unfold costU; omega)), ((Nx.refl _).alloc _).trans hnx⟩

theorem info_mk : (Try.prog.info? 87).map (fun i => (i.zero, i.size, i.bytes)) = some (some (.agg #[.string ByteArray.empty, .int .i64 0]), 2, 24) := by kernel_rfl
set_option maxRecDepth 100000 in
set_option maxHeartbeats 1000000 in
theorem toMark_c (a : Int) (s : ByteArray) (w : World) :
    Calls Try.prog 143 #[.agg #[.string s, .int .i64 a]] w fun e w' => e = .returned (.agg #[.string s, .int .i64 a]) ∧ Nx w w' := by
  go_enter Try.func143, Try.ntmps143
  go_wp2
  exact bodyPost_ret (v := .agg #[.string s, .int .i64 a]) (by simp [results, Try.results143, go_sem]) rfl ⟨rfl, ((((Nx.refl _).alloc _).alloc _).alloc _)⟩
set_option maxRecDepth 100000 in
set_option maxHeartbeats 1000000 in
theorem toMarkS_c (A : Option Addr) (c B : Nat) (ms : List Mrk) (w : World) (h : Mks w B A ms) (hB : B ≤ w.heap.size) (hn : ms.length ≤ 1048576) :
    Calls Try.prog 100 #[.slice A ms.length c] w (RetM w ms) := by
  obtain ⟨i0, hi0, hz0, hz1, hz2⟩ := info_parts info_mk
  have hmk := fun W => run_make_rowN (P := Try.prog) 31 87 i0 _ Try.underlying31 hi0 hz0 .i64 .i64 ms.length ms.length (Nat.le_refl _) (by rw [hz2]; omega) (by omega) W
  rw [hz1] at hmk
  have hmade := Own.made w #[Value.string ByteArray.empty, Value.int .i64 0] (ms.length * 2) 87
  go_enter Try.func100, Try.ntmps100
  go_wp2
  go_loopw [4] (fun i wr => ∃ k : Nat, k ≤ ms.length ∧ i = .int .i64 k ∧ Fill wr w.heap.size 87 (ms.length * 2) (k * 2) (mrAt ms) ∧ Nx w wr) (fun i _ => ms.length - (intOf i).toNat)
  case atStart => exact ⟨0, Nat.zero_le _, rfl, Fill.start hmade, (Nx.refl _).alloc _⟩
  case round =>
    obtain ⟨k, hk, rfl, hf, hnx⟩ := hrel
    by_cases hlt : k < ms.length
    · obtain ⟨b, off, rfl, hb, hc0, hc1⟩ := (h.below hnx hB).at_ hlt
      clear hmk hmade
      obtain ⟨⟨s, a⟩, Hs⟩ : ∃ s, Hid (ms.getD k mrZ = s) := ⟨_, rfl⟩
      rw [Hs.out] at hc0 hc1
      go_wp2_with fail
      refine (toMark_c a s _).mono ?_
      rintro e w1 ⟨rfl, hnx1⟩
      have hf1 := hf.nx hnx1
      obtain ⟨v0, hv0⟩ := hf1.some_ (i := k * 2) (by omega)
      obtain ⟨v1, hv1⟩ := hf1.some_ (i := k * 2 + 1) (by omega)
      have hz0 := hf1.frozen (k * 2)
      have hz1 := hf1.frozen (k * 2 + 1)
      clear hc0 hc1
      go_wp2
      go_roundw
      case rel =>
        refine ⟨k + 1, by omega, by go_num, ?_, ((hnx.trans hnx1).setCell (Nat.le_refl _) _).setCell (Nat.le_refl _) _⟩
        have e2 : (k + 1) * 2 = k * 2 + 1 + 1 := by omega
        rw [e2]
        exact (hf1.step (by omega) (by rw [mrAt0, Hs.out])).step (by omega) (by rw [mrAt1, Hs.out])
      case measure => simp [intOf]; omega
    · obtain rfl : k = ms.length := by omega
      go_wp2
      go_ret
      exact ⟨_, _, rfl, Sl.own hf.done (Nat.le_refl _), hnx⟩
set_option maxRecDepth 100000 in
set_option maxHeartbeats 1000000 in
theorem eqMark_c (a : Int) (s : ByteArray) (w : World) :
    Calls Try.prog 147 #[.agg #[.string s, .int .i64 a], .agg #[.string s, .int .i64 a]] w fun e w' => e = .returned (.bool true) ∧ Nx w w' := by
  go_enter Try.func147, Try.ntmps147
  go_wp2
  go_ret
  exact ⟨rfl, (((Nx.refl _).alloc _).alloc _)⟩
set_option maxRecDepth 100000 in
set_option maxHeartbeats 1000000 in
theorem eqMarkS_c (A A2 : Option Addr) (c c2 B : Nat) (ms : List Mrk) (w : World) (h : Mks w B A ms) (h2 : Mks w B A2 ms) (hB : B ≤ w.heap.size) (hn : ms.length ≤ 1048576) :
    Calls Try.prog 103 #[.slice A ms.length c, .slice A2 ms.length c2] w fun e w' => e = .returned (.bool true) ∧ Nx w w' := by
  go_enter Try.func103, Try.ntmps103
  go_wp2
  go_loopw [5] (fun i wr => ∃ k : Nat, k ≤ ms.length ∧ i = .int .i64 k ∧ Nx w wr) (fun i _ => ms.length - (intOf i).toNat)
  case atStart => exact ⟨0, Nat.zero_le _, rfl, Nx.refl _⟩
  case round =>
    obtain ⟨k, hk, rfl, hnx⟩ := hrel
    by_cases hlt : k < ms.length
    · obtain ⟨b, off, rfl, hb, hc, hd⟩ := (h.below hnx hB).at_ hlt
      obtain ⟨b2, off2, rfl, hb2, hc2, hd2⟩ := (h2.below hnx hB).at_ hlt
      generalize ms.getD k mrZ = s at hc hc2 hd hd2
      obtain ⟨s, a⟩ := s
      go_wp2_with fail
      go_still_tail 8, (by kernel_rfl)
      change wpList _ _ _ _ _ wr.drew
      have hnx1 : Nx w wr.drew := Below.drew hnx
      generalize wr.drew = wd at *
      go_wp2_with fail
      refine (eqMark_c a s _).mono ?_
      rintro e w1 ⟨rfl, hnx2⟩
      go_wp2
      go_roundw
      case rel => exact ⟨k + 1, by omega, by go_num, hnx1.trans hnx2⟩
      case measure => simp [intOf]; omega
    · go_wp2
      go_ret
      exact ⟨rfl, hnx⟩
theorem cs_ : Try.prog.cellsOf 9 = 1 := by kernel_rfl
theorem cLM : Try.prog.cellsOf 150 = 2 := by kernel_rfl
theorem cLU : Try.prog.cellsOf 25 = 6 := by kernel_rfl
section
variable {H : Type} {enc : TypeId × Value → H} {w : World} {base : Nat} {spare : Nat → Bool} {held : Bool}
set_option maxRecDepth 100000 in
theorem open_marks_ {fuel : Nat} {v : Value} {x : DataW H × List MemPlace} (h : DataW.trod enc Try.prog w base spare held fuel 23 [v] = some x) :
    ∃ (A : Option Addr) (c : Nat) (ms : List Mrk), v = .slice A ms.length c ∧ Mks w w.heap.size A ms ∧ AllM ms ∧ ms.length ≤ 2 ^ 63 - 1 := by
  rcases open_slice Try.underlying23 h with ⟨hcs, _⟩ | ⟨a, len, cap, m, n, D, Pl, hcs, _, hl, hm, hmm, _, hi⟩
  · exact ⟨none, 0, [], by simpa using hcs, fun hn => absurd hn (by simp), fun k => by simp [mrZ], by simp⟩
  · have hle : len ≤ m := by rw [hmm]; split <;> omega
    unfold maxLen at hm
    have key : ∀ i, ∃ p : Mrk, i < m → w.cell? (a.add (i * 2)) = some (.string p.1) ∧ w.cell? ((a.add (i * 2)).add 1) = some (.int .i64 p.2) ∧ p.1.size ≤ 2 ^ 63 - 1 := by
      intro i
      by_cases him : i < m
      · obtain ⟨cs', hc, ht⟩ := hi i him
        rw [cLM] at hc
        obtain ⟨_, hcl, hat⟩ := World.cells?_some hc
        obtain ⟨y0, y1, k, _, _, t0, t1⟩ := trod_struct2 Try.underlying150 ht
        match cs', hcl with
        | [u0, u1], _ =>
          have e0 : ∃ q, [u0] = [Value.string q] ∧ q.size ≤ maxLen := by
            obtain ⟨q, e, _, hq⟩ := DataW.trod_string Try.underlying9 t0
            rw [cs_] at e
            exact ⟨q, e, hq⟩
          have e1 : ∃ q, [u1] = [Value.int .i64 q] := by
            obtain ⟨q, e, _, _⟩ := DataW.trod_int (k := .i64) Try.underlying3 t1
            rw [ci_] at e
            exact ⟨q, e⟩
          obtain ⟨q0, e0, hq⟩ := e0
          obtain ⟨q1, e1⟩ := e1
          simp only [List.cons.injEq, and_true] at e0 e1
          subst e0 e1
          refine ⟨(q0, q1), fun _ => ⟨?_, hat 1 (by omega), by unfold maxLen at hq; exact hq⟩⟩
          have := hat 0 (by omega)
          simpa [Addr.add] using this
      · exact ⟨mrZ, fun h => absurd h him⟩
    obtain ⟨g, hg⟩ := Classical.skolem.1 key
    have hget : ∀ k, k < len → ((List.range len).map g).getD k mrZ = g k := by
      intro k hk
      rw [List.getD_eq_getElem?_getD, List.getElem?_map, List.getElem?_range hk]; rfl
    have hlen : ((List.range len).map g).length = len := by simp
    refine ⟨some a, cap, (List.range len).map g, by simpa using hcs, fun hn => ?_, fun k => ?_, by simp; omega⟩
    · rw [hlen] at hn
      have h0 := (hg 0 (by omega)).1
      rw [Nat.zero_mul] at h0
      obtain ⟨b, off, rfl, hb⟩ := addr_plain_i h0
      refine ⟨b, off, rfl, hb, fun i hi => ?_⟩
      rw [hlen] at hi
      have h1 := (hg (i / 2) (by omega)).1
      have h2 := (hg (i / 2) (by omega)).2.1
      rw [addr_add_i] at h1 h2
      rw [addr_add_i] at h2
      unfold mrAt
      rw [hget _ (by omega)]
      by_cases hp : i % 2 = 0
      · rw [if_pos hp, show off + i = off + i / 2 * 2 by omega]
        exact h1
      · rw [if_neg hp, show off + i = off + i / 2 * 2 + 1 by omega]
        exact h2
    · by_cases hk : k < len
      · rw [hget k hk]; exact (hg k (by omega)).2.2
      · rw [List.getD_eq_getElem?_getD, List.getElem?_eq_none (by simp; omega)]
        simp [mrZ]
end
end Go.Proofs.Ytihpadelfpogmaa
