/-
  What SegOf, Forward, Backward and MergeSegs answer of what is right; two writes put together.
  Conditions: those of each theorem.
-/
import Derived.Test.YtihpadelfpogmaaMgp
import Derived.Test.YtihpadelfpogmaaLso
import Derived.Test.YtihpadelfpogmaaAtp
namespace Go.Proofs.Ytihpadelfpogmaa
set_option linter.unusedVariables false
set_option maxRecDepth 100000
open Go.RowKit

theorem askC_yes {xs : List Int} {ok : Bool} (h : contB xs = true) (hk : ok = true) : askC xs ok = 0 := by
  unfold askC
  rw [if_neg (by have := (contB_yes h).1; omega), h, hk]; rfl
theorem len8 {xs : List Int} (h : contB xs = true) : xs.length ≤ 1048576 := by have := (contB_yes h).1; omega
theorem segOf_yes (A : Option Addr) (c B : Nat) (xs : List Int) (p b v t : Int) (w : World) (h : Ins w B A xs) (hB : B ≤ w.heap.size) (hc : contB xs = true) (hf : frameB p b v t = true) :
    Calls Try.prog 34 #[.slice A 8 c, .agg #[.int .i64 p, .int .i64 b, .int .i64 v, .int .i64 t]] w fun e w' =>
      ∃ A9 c9, e = .returned (.tuple #[.agg #[.int .i64 (p - 1), .int .i64 p, .int .i64 t, .slice A9 1 c9], .int .i64 0]) ∧ Sl w' w.heap.size A9 84 3 (chAt [(b, v, xs.getD b.toNat 0)]) ∧ Nx w w' := by
  have h8 := (contB_yes hc).1
  have := implSegOf_c A c B xs p b v t w h hB (len8 hc)
  rw [h8] at this
  refine this.mono fun e w' hR => ?_
  exact hR.un (show sgOf xs p b v t = ofW xs p b v t from if_pos (by rw [hc, hf]; rfl)) (askC_yes hc hf)
theorem forward_yes (A : Option Addr) (c B : Nat) (xs : List Int) (f t m : Int) (A2 : Option Addr) (c2 n : Nat) (cs : List Chg) (w : World) (hl : cs.length = n) (h : Ins w B A xs) (hg : Chs w B A2 cs) (hB : B ≤ w.heap.size) (hc : contB xs = true) (hs : segB f t m cs = true) :
    Calls Try.prog 50 #[.slice A 8 c, .agg #[.int .i64 f, .int .i64 t, .int .i64 m, .slice A2 n c2]] w fun e w' =>
      ∃ A9 c9, e = .returned (.tuple #[.slice A9 8 c9, .int .i64 0]) ∧ SlI w' w.heap.size A9 (app pN xs cs) ∧ Nx w w' := by
  subst hl
  have h8 := (contB_yes hc).1
  have := implForward_c A c B xs f t m A2 c2 cs w h hg hB (len8 hc) (by have := chsB_len (segB_chs hs); omega)
  rw [h8] at this
  refine this.mono fun e w' hR => ?_
  rw [askC_yes hc hs, fwV_yes (by rw [hc, hs]; rfl)] at hR
  obtain ⟨A9, c9, h1, h2, h3⟩ := hR
  exact ⟨A9, c9, by rw [h1, app_len, h8], h2, h3⟩
theorem backward_yes (A : Option Addr) (c B : Nat) (xs : List Int) (f t m : Int) (A2 : Option Addr) (c2 n : Nat) (cs : List Chg) (w : World) (hl : cs.length = n) (h : Ins w B A xs) (hg : Chs w B A2 cs) (hB : B ≤ w.heap.size) (hc : contB xs = true) (hs : segB f t m cs = true) :
    Calls Try.prog 52 #[.slice A 8 c, .agg #[.int .i64 f, .int .i64 t, .int .i64 m, .slice A2 n c2]] w fun e w' =>
      ∃ A9 c9, e = .returned (.tuple #[.slice A9 8 c9, .int .i64 0]) ∧ SlI w' w.heap.size A9 (app pO xs cs) ∧ Nx w w' := by
  subst hl
  have h8 := (contB_yes hc).1
  have := implBackward_c A c B xs f t m A2 c2 cs w h hg hB (len8 hc) (by have := chsB_len (segB_chs hs); omega)
  rw [h8] at this
  refine this.mono fun e w' hR => ?_
  rw [askC_yes hc hs, fwV_yes (by rw [hc, hs]; rfl)] at hR
  obtain ⟨A9, c9, h1, h2, h3⟩ := hR
  exact ⟨A9, c9, by rw [h1, app_len, h8], h2, h3⟩
theorem cases8 {n : Nat} (h : n < 8) : n = 0 ∨ n = 1 ∨ n = 2 ∨ n = 3 ∨ n = 4 ∨ n = 5 ∨ n = 6 ∨ n = 7 := by omega
/-- Two writes put together: the changes. -/
def two (b b2 : Nat) (v o v2 o2 : Int) : List Chg := if b = b2 then [((b : Int), v2, o)] else if b < b2 then [((b : Int), v, o), ((b2 : Int), v2, o2)] else [((b2 : Int), v2, o2), ((b : Int), v, o)]
theorem mrg_two {b b2 : Nat} (hb : b < 8) (hb2 : b2 < 8) (v o v2 o2 : Int) : mrgC [((b : Int), v, o)] [((b2 : Int), v2, o2)] = two b b2 v o v2 o2 := by
  rcases cases8 hb with rfl | rfl | rfl | rfl | rfl | rfl | rfl | rfl <;> rcases cases8 hb2 with rfl | rfl | rfl | rfl | rfl | rfl | rfl | rfl <;> rfl
theorem inB_of {a lo hi : Int} (h1 : lo ≤ a) (h2 : a ≤ hi) : inB lo hi a = true := inB_mk h1 h2
theorem ch_one {b v o : Int} (h : chB (b, v, o) = true) : chsB [(b, v, o)] = true := OkTo.all fun j hj => by
  obtain rfl : j = 0 := by simp at hj; omega
  unfold okCh
  show (chB (b, v, o) && _) = true
  rw [h]; rfl
theorem ch_two {c d : Chg} (h : chB c = true) (h2 : chB d = true) (hlt : c.1 < d.1) : chsB [c, d] = true := OkTo.all fun j hj => by
  have : j = 0 ∨ j = 1 := by simp at hj; omega
  unfold okCh
  rcases this with rfl | rfl
  · show (chB c && _) = true
    rw [h]; rfl
  · show (chB d && ((1 : Nat) == 0 || decide (c.1 < d.1))) = true
    rw [h2, decide_eq_true hlt]; rfl
theorem chB_mk {b v o : Int} (h0 : 0 ≤ b) (h1 : b ≤ 7) (h2 : 0 ≤ v) (h3 : v ≤ 999999) (h4 : 0 ≤ o) (h5 : o ≤ 999999) : chB (b, v, o) = true := by
  unfold chB
  rw [inB_mk h0 h1, inB_mk h2 h3, inB_mk h4 h5]; rfl
theorem two_ok {b b2 : Nat} (hb : b < 8) (hb2 : b2 < 8) {v o v2 o2 : Int} (h0 : 0 ≤ v) (h1 : v ≤ 999999) (h2 : 0 ≤ o) (h3 : o ≤ 999999) (h4 : 0 ≤ v2) (h5 : v2 ≤ 999999) (h6 : 0 ≤ o2) (h7 : o2 ≤ 999999) : chsB (two b b2 v o v2 o2) = true := by
  unfold two
  split
  · exact ch_one (chB_mk (by omega) (by omega) h4 h5 h2 h3)
  · split
    · exact ch_two (chB_mk (by omega) (by omega) h0 h1 h2 h3) (chB_mk (by omega) (by omega) h4 h5 h6 h7) (by simp only; omega)
    · exact ch_two (chB_mk (by omega) (by omega) h4 h5 h6 h7) (chB_mk (by omega) (by omega) h0 h1 h2 h3) (by simp only; omega)
theorem app_one (p : Chg → Int) (xs : List Int) (b : Nat) (v o : Int) : app p xs [((b : Int), v, o)] = xs.set b (p ((b : Int), v, o)) := by
  show xs.set ((b : Int)).toNat _ = _
  rw [Int.toNat_natCast]
theorem app_two (p : Chg → Int) (xs : List Int) (b b2 : Nat) (v o v2 o2 : Int) : app p xs [((b : Int), v, o), ((b2 : Int), v2, o2)] = (xs.set b (p ((b : Int), v, o))).set b2 (p ((b2 : Int), v2, o2)) := by
  show (xs.set ((b : Int)).toNat _).set ((b2 : Int)).toNat _ = _
  rw [Int.toNat_natCast, Int.toNat_natCast]
theorem getD_set_self {xs : List Int} {b : Nat} (h : b < xs.length) (v : Int) : (xs.set b v).getD b 0 = v := by
  rw [List.getD_eq_getElem?_getD, List.getElem?_set]; simp [h]
theorem getD_set_ne {xs : List Int} {b b2 : Nat} (h : b ≠ b2) (v : Int) : (xs.set b v).getD b2 0 = xs.getD b2 0 := by
  rw [List.getD_eq_getElem?_getD, List.getD_eq_getElem?_getD, List.getElem?_set_ne h]
theorem set_getD {xs : List Int} {b : Nat} (h : b < xs.length) : xs.set b (xs.getD b 0) = xs := by
  rw [List.getD_eq_getElem?_getD, List.getElem?_eq_getElem h]
  exact List.set_getElem_self h
/-- Forwards it does what both do. -/
theorem two_new (xs : List Int) (b b2 : Nat) (v o v2 o2 : Int) : app pN xs (two b b2 v o v2 o2) = (xs.set b v).set b2 v2 := by
  unfold two
  split
  · rename_i h
    subst h
    rw [app_one]
    show xs.set b v2 = _
    rw [List.set_set]
  · rename_i h
    split
    · rw [app_two]; rfl
    · rw [app_two]
      show (xs.set b2 v2).set b v = _
      rw [List.set_comm _ _ (fun e => h e.symm)]
/-- .. and back. -/
theorem two_old {xs : List Int} {b b2 : Nat} (hb : b < xs.length) (hb2 : b2 < xs.length) (v v2 : Int) : app pO ((xs.set b v).set b2 v2) (two b b2 v (xs.getD b 0) v2 ((xs.set b v).getD b2 0)) = xs := by
  unfold two
  split
  · rename_i h
    subst h
    rw [app_one]
    show ((xs.set b v).set b v2).set b (xs.getD b 0) = xs
    rw [List.set_set, List.set_set, set_getD hb]
  · rename_i h
    rw [getD_set_ne h]
    have e : ((((xs.set b v).set b2 v2).set b (xs.getD b 0)).set b2 (xs.getD b2 0)) = xs := by
      rw [List.set_comm _ _ (fun e => h e.symm), List.set_set, List.set_set, set_getD hb, set_getD hb2]
    split
    · rw [app_two]; exact e
    · rw [app_two]
      show (((xs.set b v).set b2 v2).set b2 (xs.getD b2 0)).set b (xs.getD b 0) = xs
      rw [List.set_comm _ _ (fun e => h e.symm)]; exact e
theorem cont_set {xs : List Int} {b : Nat} {v : Int} (h : contB xs = true) (h0 : 0 ≤ v) (h1 : v ≤ 999999) : contB (xs.set b v) = true := by
  obtain ⟨h8, hv⟩ := contB_yes h
  refine contB_mk (by rw [List.length_set]; exact h8) fun j hj => ?_
  rw [List.length_set] at hj
  by_cases e : b = j
  · subst e; rw [getD_set_self hj]; exact inB_mk h0 h1
  · rw [getD_set_ne e]; have := hv j (by omega); exact inB_mk this.1 this.2
theorem frameB_mk {p b v t : Int} (h1 : 1 ≤ p) (h2 : p ≤ 999999) (h3 : 0 ≤ b) (h4 : b ≤ 7) (h5 : 0 ≤ v) (h6 : v ≤ 999999) (h7 : 0 ≤ t) (h8 : t ≤ 999999) : frameB p b v t = true := by
  unfold frameB; rw [inB_mk h1 h2, inB_mk h3 h4, inB_mk h5 h6, inB_mk h7 h8]; rfl
/-- All that FnMerge's values are. -/
structure MV (xs : List Int) (p b v t b2 v2 t2 : Nat) (o o2 : Int) (x1 y1 : List Int) (qs : List Chg) : Prop where
  o_ : xs.getD b 0 = o
  o2_ : x1.getD b2 0 = o2
  f1 : frameB (p : Int) (b : Int) (v : Int) (t : Int) = true
  f2 : frameB ((p : Int) + 1) (b2 : Int) (v2 : Int) (t2 : Int) = true
  c1 : contB x1 = true
  c2 : contB y1 = true
  s1 : segB ((p : Int) - 1) (p : Int) (t : Int) [((b : Int), (v : Int), o)] = true
  s2 : segB (p : Int) ((p : Int) + 1) (t2 : Int) [((b2 : Int), (v2 : Int), o2)] = true
  s3 : segB ((p : Int) - 1) ((p : Int) + 1) (t2 : Int) qs = true
  e1 : app pN xs [((b : Int), (v : Int), o)] = x1
  e2 : app pN x1 [((b2 : Int), (v2 : Int), o2)] = y1
  e3 : app pN xs qs = y1
  e4 : app pO y1 qs = xs
  g1 : mgSg ((p : Int) - 1) (p : Int) (t : Int) [((b : Int), (v : Int), o)] (p : Int) ((p : Int) + 1) (t2 : Int) [((b2 : Int), (v2 : Int), o2)] = ((p : Int) - 1, (p : Int) + 1, (t2 : Int), qs)
  g2 : mgCd ((p : Int) - 1) (p : Int) (t : Int) [((b : Int), (v : Int), o)] (p : Int) ((p : Int) + 1) (t2 : Int) [((b2 : Int), (v2 : Int), o2)] = 0
  g3 : mgSg (p : Int) ((p : Int) + 1) (t2 : Int) [((b2 : Int), (v2 : Int), o2)] ((p : Int) - 1) (p : Int) (t : Int) [((b : Int), (v : Int), o)] = (0, 0, 0, [])
  g4 : mgCd (p : Int) ((p : Int) + 1) (t2 : Int) [((b2 : Int), (v2 : Int), o2)] ((p : Int) - 1) (p : Int) (t : Int) [((b : Int), (v : Int), o)] = 17
  y_ : y1.getD b2 0 = (v2 : Int)
  q8 : qs.length ≤ 8
theorem mv {xs : List Int} {p b v t b2 v2 t2 : Nat} (hc : contB xs = true) (h : 1 ≤ p ∧ p ≤ 20 ∧ b < 8 ∧ v < 900 ∧ t < 200) (h2 : b2 < 8 ∧ v2 < 900 ∧ t2 < 200) : ∃ o o2 x1 y1 qs, MV xs p b v t b2 v2 t2 o o2 x1 y1 qs := by
  obtain ⟨h8, hv⟩ := contB_yes hc
  have hc1 := cont_set (b := b) (v := (v : Int)) hc (by omega) (by omega)
  have hc2 := cont_set (b := b2) (v := (v2 : Int)) hc1 (by omega) (by omega)
  obtain ⟨h81, hv1⟩ := contB_yes hc1
  have ho := hv b (by omega)
  have ho2 := hv1 b2 (by omega)
  have hk := two_ok (b := b) (b2 := b2) (v := (v : Int)) (o := xs.getD b 0) (v2 := (v2 : Int)) (o2 := (xs.set b (v : Int)).getD b2 0) (by omega) (by omega) (by omega) (by omega) ho.1 ho.2 (by omega) (by omega) ho2.1 ho2.2
  have s1 : segB ((p : Int) - 1) (p : Int) (t : Int) [((b : Int), (v : Int), xs.getD b 0)] = true := segB_mk (by omega) (by omega) (by omega) (inB_mk (by omega) (by omega)) (ch_one (chB_mk (by omega) (by omega) (by omega) (by omega) ho.1 ho.2))
  have s2 : segB (p : Int) ((p : Int) + 1) (t2 : Int) [((b2 : Int), (v2 : Int), (xs.set b (v : Int)).getD b2 0)] = true := segB_mk (by omega) (by omega) (by omega) (inB_mk (by omega) (by omega)) (ch_one (chB_mk (by omega) (by omega) (by omega) (by omega) ho2.1 ho2.2))
  have hm1 := mg_yes (f := (p : Int) - 1) (t := (p : Int)) (m := (t : Int)) (l1 := [((b : Int), (v : Int), xs.getD b 0)]) (f2 := (p : Int)) (t2 := (p : Int) + 1) (m2 := (t2 : Int)) (l2 := [((b2 : Int), (v2 : Int), (xs.set b (v : Int)).getD b2 0)]) (by unfold mgB; rw [s1, s2]; rfl) rfl
  have hm2 := mg_gap (f := (p : Int)) (t := (p : Int) + 1) (m := (t2 : Int)) (l1 := [((b2 : Int), (v2 : Int), (xs.set b (v : Int)).getD b2 0)]) (f2 := (p : Int) - 1) (t2 := (p : Int)) (m2 := (t : Int)) (l2 := [((b : Int), (v : Int), xs.getD b 0)]) (by unfold mgB; rw [s1, s2]; rfl) (by omega)
  refine ⟨xs.getD b 0, (xs.set b (v : Int)).getD b2 0, xs.set b (v : Int), (xs.set b (v : Int)).set b2 (v2 : Int), two b b2 (v : Int) (xs.getD b 0) (v2 : Int) ((xs.set b (v : Int)).getD b2 0), ⟨rfl, rfl, frameB_mk (by omega) (by omega) (by omega) (by omega) (by omega) (by omega) (by omega) (by omega), frameB_mk (by omega) (by omega) (by omega) (by omega) (by omega) (by omega) (by omega) (by omega), hc1, hc2, s1, s2,
    segB_mk (by omega) (by omega) (by omega) (inB_mk (by omega) (by omega)) hk, app_one _ _ _ _ _, app_one _ _ _ _ _, two_new _ _ _ _ _ _ _, two_old (by omega) (by omega) _ _, by rw [hm1.2, mrg_two (by omega) (by omega)], hm1.1, hm2.2, hm2.1, getD_set_self (by omega) _, chsB_len hk⟩⟩
end Go.Proofs.Ytihpadelfpogmaa
