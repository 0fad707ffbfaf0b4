/-
  Contracts of ReadSuper, as the model and as the program have it, and the walk of the law FnExactReadSuper.
  Conditions: the package's errors are known; the library's variable MaxLen holds a number.
-/
import Derived.Test.YteckhdkghfidiaaDoorRds
import Derived.Test.YteckhdkghfidiaaDoorLrf
import Derived.Test.YteckhdkghfidiaaDoorHlu
namespace Go.Proofs.YteckhdkghfidiaaDoor
set_option linter.unusedVariables false
set_option maxRecDepth 100000
open Go.RowKit

def RetRU (w : World) (t : ByteArray) (e : Ending) (w' : World) : Prop :=
  Nx w w' ∧ ∃ A c A2 c2, e = .returned (.tuple #[.agg #[.int .i64 (suA t).1, .int .i64 (suA t).2.1, .int .i64 (suA t).2.2.1, .int .i64 (suA t).2.2.2.1, .slice A (suA t).2.2.2.2.1.length c, .slice A2 (suA t).2.2.2.2.2.length c2], .int .i64 (suC t)]) ∧
    (suA t).2.2.2.2.1.length ≤ c ∧ SlI w' w.heap.size A (suA t).2.2.2.2.1 ∧ SlM w' w.heap.size A2 (suA t).2.2.2.2.2
theorem RetRU.un {w w' : World} {t : ByteArray} {e : Ending} {g b p q : Int} {xs : List Int} {ms : List Mrk} {cd : Int} (h : RetRU w t e w') (hq : suA t = (g, b, p, q, xs, ms)) (hc : suC t = cd) :
    Nx w w' ∧ ∃ A c A2 c2, e = .returned (.tuple #[.agg #[.int .i64 g, .int .i64 b, .int .i64 p, .int .i64 q, .slice A xs.length c, .slice A2 ms.length c2], .int .i64 cd]) ∧ xs.length ≤ c ∧ SlI w' w.heap.size A xs ∧ SlM w' w.heap.size A2 ms := by
  unfold RetRU at h; rw [hq, hc] at h; exact h
theorem RetRU.mk {w w' : World} {t : ByteArray} {g b p q : Int} {xs : List Int} {ms : List Mrk} {cd : Int} {c c2 : Nat} {A A2 : Option Addr} (hq : suA t = (g, b, p, q, xs, ms) ∧ suC t = cd) (hc : xs.length ≤ c) (hs : SlI w' w.heap.size A xs) (hm : SlM w' w.heap.size A2 ms) (hn : Nx w w') :
    RetRU w t (.returned (.tuple #[.agg #[.int .i64 g, .int .i64 b, .int .i64 p, .int .i64 q, .slice A xs.length c, .slice A2 ms.length c2], .int .i64 cd])) w' := by
  unfold RetRU; rw [hq.1, hq.2]; exact ⟨hn, A, c, A2, c2, rfl, hc, hs, hm⟩
theorem SlI.nil {w : World} {lo : Nat} : SlI w lo none [] := fun h => absurd h (by simp)
theorem SlM.nil {w : World} {lo : Nat} : SlM w lo none [] := fun h => absurd h (by simp)
theorem RetRU.zero {w w' : World} {t : ByteArray} {cd : Int} (hq : suA t = zU ∧ suC t = cd) (hn : Nx w w') :
    RetRU w t (.returned (.tuple #[.agg #[.int .i64 0, .int .i64 0, .int .i64 0, .int .i64 0, .slice none 0 0, .slice none 0 0], .int .i64 cd])) w' := RetRU.mk (g := 0) (b := 0) (p := 0) (q := 0) (xs := []) (ms := []) hq (Nat.le_refl _) SlI.nil SlM.nil hn
theorem suA_len (t : ByteArray) : (suA t).2.2.2.2.1.length ≤ 1048576 ∧ (suA t).2.2.2.2.2.length ≤ 1048576 := by
  by_cases h : t.size ≤ 65536
  case neg => rw [(suA_long h).1]; simp [zU]
  cases hr : rdU t with
  | none => rw [(suA_none h hr).1]; simp [zU]
  | some u =>
    obtain ⟨g, b, p, q, xs, ms⟩ := u
    rw [(suA_some h hr).1]
    have hs := superB_yes (rdU_super hr)
    have h1 := (tbB_yes hs.2.2.2.2.1).1
    have h2 := (msB_yes hs.2.2.2.2.2).1
    exact ⟨by show xs.length ≤ _; omega, by show ms.length ≤ _; omega⟩

set_option maxHeartbeats 800000 in
theorem specReadSuper_c (t : ByteArray) (w : World) (ht : t.size ≤ 1048576) : Calls Tryd.prog 10 #[.string t] w (RetRU w t) := by
  have b0 := Box.new w 31 #[.int .i64 0, .int .i64 0, .int .i64 0, .int .i64 0, .slice none 0 0, .slice none 0 0]
  have hx0 := (Nx.refl w).alloc (.cells #[.int .i64 0, .int .i64 0, .int .i64 0, .int .i64 0, .slice none 0 0, .slice none 0 0] 31)
  by_cases hl : t.size ≤ 65536
  case neg =>
    have hd : decide (65536 < (t.size : Int)) = true := by simp; omega
    have HA := Lib.hid (suA_long hl)
    go_enter Tryd.func10, Tryd.ntmps10
    go_wp2
    refine bodyPost_ret (v := .tuple #[.agg #[.int .i64 0, .int .i64 0, .int .i64 0, .int .i64 0, .slice none 0 0, .slice none 0 0], .int .i64 2]) (by simp [results, Tryd.results10, go_sem]) rfl (RetRU.zero HA.out hx0)
  have hd : decide (65536 < (t.size : Int)) = false := by simp; omega
  go_enter Tryd.func10, Tryd.ntmps10
  go_wp2_with fail
  generalize w.alloc (.cells #[.int .i64 0, .int .i64 0, .int .i64 0, .int .i64 0, .slice none 0 0, .slice none 0 0] 31) = W at *
  have hgl := b0.lt
  refine (l04Read_c t _ hl).mono ?_
  rintro e w1 ⟨hnx1, h1, h2⟩
  have b1 := b0.nx hnx1
  have hx1 := hx0.trans hnx1
  clear b0 hx0 hnx1
  have hlt := b1.lt
  cases hr : rdU t with
  | none =>
    have HA := Lib.hid (suA_none hl hr)
    obtain rfl := h1 hr
    clear h1 h2 hr
    obtain ⟨u0, u1, u2, u3, u4, u5⟩ := b1.d6
    have f0 := b1.frozen 0
    have f1 := b1.frozen 1
    have f2 := b1.frozen 2
    have f3 := b1.frozen 3
    have f4 := b1.frozen 4
    have f5 := b1.frozen 5
    go_wp2
    have qx := ((put6_box b1 (.int .i64 0) (.int .i64 0) (.int .i64 0) (.int .i64 0) (.slice none 0 0) (.slice none 0 0)).alloc (.cells #[.int .i64 0, .int .i64 0, .int .i64 0, .int .i64 0, .slice none 0 0, .slice none 0 0] 31))
    have hnf := ((put6_nx hx1 (Nat.le_refl w.heap.size) (.int .i64 0) (.int .i64 0) (.int .i64 0) (.int .i64 0) (.slice none 0 0) (.slice none 0 0)).alloc (.cells #[.int .i64 0, .int .i64 0, .int .i64 0, .int .i64 0, .slice none 0 0, .slice none 0 0] 31))
    change bodyPost _ _ _ _ _ (World.alloc (put6 w1 w.heap.size (.int .i64 0) (.int .i64 0) (.int .i64 0) (.int .i64 0) (.slice none 0 0) (.slice none 0 0)) (.cells #[.int .i64 0, .int .i64 0, .int .i64 0, .int .i64 0, .slice none 0 0, .slice none 0 0] 31))
    change Box (World.alloc (put6 w1 w.heap.size (.int .i64 0) (.int .i64 0) (.int .i64 0) (.int .i64 0) (.slice none 0 0) (.slice none 0 0)) (.cells #[.int .i64 0, .int .i64 0, .int .i64 0, .int .i64 0, .slice none 0 0, .slice none 0 0] 31)) _ _ _ at qx
    generalize World.alloc (put6 w1 w.heap.size (.int .i64 0) (.int .i64 0) (.int .i64 0) (.int .i64 0) (.slice none 0 0) (.slice none 0 0)) (.cells #[.int .i64 0, .int .i64 0, .int .i64 0, .int .i64 0, .slice none 0 0, .slice none 0 0] 31) = Wf at *
    obtain ⟨g0, g1, g2, g3, g4, g5⟩ := qx.d6
    exact bodyPost_ret (v := .tuple #[.agg #[.int .i64 0, .int .i64 0, .int .i64 0, .int .i64 0, .slice none 0 0, .slice none 0 0], .int .i64 3]) (by simp [results, Tryd.results10, go_sem, g0, g1, g2, g3, g4, g5]) rfl (RetRU.zero HA.out hnf)
  | some u =>
    have HA := Lib.hid (suA_some hl hr)
    obtain ⟨g, b, p, q, xs, ms⟩ := u
    obtain ⟨A, c, A2, c2, he, hcc, hS1, hM1⟩ := h2 _ hr
    replace he : e = .returned (.tuple #[.agg #[.int .i64 g, .int .i64 b, .int .i64 p, .int .i64 q, .slice A xs.length c, .slice A2 ms.length c2], .bool true]) := he
    replace hS1 : SlI w1 W.heap.size A xs := hS1
    replace hM1 : SlM w1 W.heap.size A2 ms := hM1
    replace hcc : xs.length ≤ c := hcc
    have HCC := Lib.hid hcc
    subst he
    clear h1 h2 hr hcc
    obtain ⟨u0, u1, u2, u3, u4, u5⟩ := b1.d6
    have f0 := b1.frozen 0
    have f1 := b1.frozen 1
    have f2 := b1.frozen 2
    have f3 := b1.frozen 3
    have f4 := b1.frozen 4
    have f5 := b1.frozen 5
    go_wp2
    have qx := ((put6_box b1 (.int .i64 g) (.int .i64 b) (.int .i64 p) (.int .i64 q) (.slice A xs.length c) (.slice A2 ms.length c2)).alloc (.cells #[.int .i64 g, .int .i64 b, .int .i64 p, .int .i64 q, .slice A xs.length c, .slice A2 ms.length c2] 31))
    have hnf := ((put6_nx hx1 (Nat.le_refl w.heap.size) (.int .i64 g) (.int .i64 b) (.int .i64 p) (.int .i64 q) (.slice A xs.length c) (.slice A2 ms.length c2)).alloc (.cells #[.int .i64 g, .int .i64 b, .int .i64 p, .int .i64 q, .slice A xs.length c, .slice A2 ms.length c2] 31))
    have hsf := ((hS1.pt6 hgl (.int .i64 g) (.int .i64 b) (.int .i64 p) (.int .i64 q) (.slice A xs.length c) (.slice A2 ms.length c2)).nx ((Nx.refl _).alloc (.cells #[.int .i64 g, .int .i64 b, .int .i64 p, .int .i64 q, .slice A xs.length c, .slice A2 ms.length c2] 31)))
    change Sl (World.alloc (put6 w1 w.heap.size (.int .i64 g) (.int .i64 b) (.int .i64 p) (.int .i64 q) (.slice A xs.length c) (.slice A2 ms.length c2)) (.cells #[.int .i64 g, .int .i64 b, .int .i64 p, .int .i64 q, .slice A xs.length c, .slice A2 ms.length c2] 31)) _ _ _ _ _ at hsf
    have hmf := ((hM1.pt6 hgl (.int .i64 g) (.int .i64 b) (.int .i64 p) (.int .i64 q) (.slice A xs.length c) (.slice A2 ms.length c2)).nx ((Nx.refl _).alloc (.cells #[.int .i64 g, .int .i64 b, .int .i64 p, .int .i64 q, .slice A xs.length c, .slice A2 ms.length c2] 31)))
    change Sl (World.alloc (put6 w1 w.heap.size (.int .i64 g) (.int .i64 b) (.int .i64 p) (.int .i64 q) (.slice A xs.length c) (.slice A2 ms.length c2)) (.cells #[.int .i64 g, .int .i64 b, .int .i64 p, .int .i64 q, .slice A xs.length c, .slice A2 ms.length c2] 31)) _ _ _ _ _ at hmf
    change bodyPost _ _ _ _ _ (World.alloc (put6 w1 w.heap.size (.int .i64 g) (.int .i64 b) (.int .i64 p) (.int .i64 q) (.slice A xs.length c) (.slice A2 ms.length c2)) (.cells #[.int .i64 g, .int .i64 b, .int .i64 p, .int .i64 q, .slice A xs.length c, .slice A2 ms.length c2] 31))
    change Box (World.alloc (put6 w1 w.heap.size (.int .i64 g) (.int .i64 b) (.int .i64 p) (.int .i64 q) (.slice A xs.length c) (.slice A2 ms.length c2)) (.cells #[.int .i64 g, .int .i64 b, .int .i64 p, .int .i64 q, .slice A xs.length c, .slice A2 ms.length c2] 31)) _ _ _ at qx
    generalize World.alloc (put6 w1 w.heap.size (.int .i64 g) (.int .i64 b) (.int .i64 p) (.int .i64 q) (.slice A xs.length c) (.slice A2 ms.length c2)) (.cells #[.int .i64 g, .int .i64 b, .int .i64 p, .int .i64 q, .slice A xs.length c, .slice A2 ms.length c2] 31) = Wf at *
    obtain ⟨g0, g1, g2, g3, g4, g5⟩ := qx.d6
    exact bodyPost_ret (v := .tuple #[.agg #[.int .i64 g, .int .i64 b, .int .i64 p, .int .i64 q, .slice A xs.length c, .slice A2 ms.length c2], .int .i64 0]) (by simp [results, Tryd.results10, go_sem, g0, g1, g2, g3, g4, g5]) rfl (RetRU.mk HA.out HCC.out (hsf.low (by omega)) (hmf.low (by omega)) hnf)

/-- What superOfText answers, in one form: a super, an error, and the code that it has. -/
theorem superText_any (t : ByteArray) (a0 a1 : Addr) :
    ∃ (g b p q : Int) (xs : List Int) (ms : List Mrk) (ev : Value) (cd : Int), (suA t = (g, b, p, q, xs, ms) ∧ suC t = cd) ∧
      (∀ w', Er w' a0 a1 → Calls Tryd.prog 26 #[ev] w' fun e w'' => e = .returned (.int .i64 cd) ∧ w' = w'') ∧
      ∀ w', Er w' a0 a1 → Mx w' → Calls Tryd.prog 25 #[.string t] w' fun e w'' => ∃ A c A2 c2, e = .returned (.tuple #[.agg #[.int .i64 g, .int .i64 b, .int .i64 p, .int .i64 q, .slice A xs.length c, .slice A2 ms.length c2], ev]) ∧ xs.length ≤ c ∧ Nx w' w'' ∧ SlI w'' w'.heap.size A xs ∧ SlM w'' w'.heap.size A2 ms := by
  by_cases hl : t.size ≤ 65536
  case neg =>
    exact ⟨0, 0, 0, 0, [], [], _, 2, suA_long hl, fun w' h => textCode_long w' a0 a1 h, fun w' h _ => (superOfTextLong_c t w' a0 a1 (by omega) h).mono fun e w'' ⟨he, hn⟩ => ⟨none, 0, none, 0, he, Nat.le_refl _, hn, SlI.nil, SlM.nil⟩⟩
  cases hr : rdU t with
  | none => exact ⟨0, 0, 0, 0, [], [], _, 3, suA_none hl hr, fun w' h => textCode_form w' a0 a1 h, fun w' h hM => (superOfText_c t w' a0 a1 hl h hM).mono fun e w'' ⟨hn, h1, h2⟩ => ⟨none, 0, none, 0, h1 hr, Nat.le_refl _, hn, SlI.nil, SlM.nil⟩⟩
  | some u =>
    obtain ⟨g, b, p, q, xs, ms⟩ := u
    exact ⟨g, b, p, q, xs, ms, _, 0, suA_some hl hr, fun w' h => textCode_nil w', fun w' h hM => (superOfText_c t w' a0 a1 hl h hM).mono fun e w'' ⟨hn, h1, h2⟩ => by
      obtain ⟨A, c, A2, c2, he, hcc, hs, hm⟩ := h2 _ hr
      exact ⟨A, c, A2, c2, he, hcc, hn, hs, hm⟩⟩
set_option maxHeartbeats 800000 in
theorem implReadSuper_c (t : ByteArray) (w : World) (a0 a1 : Addr) (hE : Er w a0 a1) (hM : Mx w) : Calls Tryd.prog 11 #[.string t] w (RetRU w t) := by
  obtain ⟨g, b, p, q, xs, ms, ev, cd, hA, hTC, hFT⟩ := superText_any t a0 a1
  have HA := Lib.hid hA
  have HTC := Lib.hid hTC
  have HFT := Lib.hid hFT
  clear hA hTC hFT
  have b0 := Box.new w 31 #[.int .i64 0, .int .i64 0, .int .i64 0, .int .i64 0, .slice none 0 0, .slice none 0 0]
  have hx0 := (Nx.refl w).alloc (.cells #[.int .i64 0, .int .i64 0, .int .i64 0, .int .i64 0, .slice none 0 0, .slice none 0 0] 31)
  go_enter Tryd.func11, Tryd.ntmps11
  go_wp2_with fail
  generalize w.alloc (.cells #[.int .i64 0, .int .i64 0, .int .i64 0, .int .i64 0, .slice none 0 0, .slice none 0 0] 31) = W at *
  have hgl := b0.lt
  refine (HFT.out _ (hE.nx hx0) (hM.nx hx0)).mono ?_
  rintro e w1 ⟨A, c, A2, c2, rfl, hcc, hnx1, hS1, hM1⟩
  have HCC := Lib.hid hcc
  clear hcc
  go_wp2_with fail
  have b2 := (b0.nx hnx1).alloc (.cells #[.int .i64 g, .int .i64 b, .int .i64 p, .int .i64 q, .slice A xs.length c, .slice A2 ms.length c2] 31)
  have bx := Box.new w1 31 #[.int .i64 g, .int .i64 b, .int .i64 p, .int .i64 q, .slice A xs.length c, .slice A2 ms.length c2]
  have hgx : w1.heap.size ≠ w.heap.size := by have := (b0.nx hnx1).lt; omega
  have hx2 := (hx0.trans hnx1).alloc (.cells #[.int .i64 g, .int .i64 b, .int .i64 p, .int .i64 q, .slice A xs.length c, .slice A2 ms.length c2] 31)
  have hS2 := hS1.nx ((Nx.refl w1).alloc (.cells #[.int .i64 g, .int .i64 b, .int .i64 p, .int .i64 q, .slice A xs.length c, .slice A2 ms.length c2] 31))
  have hM2 := hM1.nx ((Nx.refl w1).alloc (.cells #[.int .i64 g, .int .i64 b, .int .i64 p, .int .i64 q, .slice A xs.length c, .slice A2 ms.length c2] 31))
  have hE2 := hE.nx hx2
  generalize w1.alloc (.cells #[.int .i64 g, .int .i64 b, .int .i64 p, .int .i64 q, .slice A xs.length c, .slice A2 ms.length c2] 31) = w2 at *
  obtain ⟨u0, u1, u2, u3, u4, u5⟩ := b2.d6
  have f0 := b2.frozen 0
  have f1 := b2.frozen 1
  have f2 := b2.frozen 2
  have f3 := b2.frozen 3
  have f4 := b2.frozen 4
  have f5 := b2.frozen 5
  refine wp_region_lex [false, false, true, true, false] (fun w' => w'.cell? ⟨w1.heap.size, 0, none⟩ = some (.int .i64 g) ∧ w'.cell? ⟨w1.heap.size, 1, none⟩ = some (.int .i64 b) ∧ w'.cell? ⟨w1.heap.size, 2, none⟩ = some (.int .i64 p) ∧ w'.cell? ⟨w1.heap.size, 3, none⟩ = some (.int .i64 q) ∧ w'.cell? ⟨w1.heap.size, 4, none⟩ = some (.slice A xs.length c) ∧ w'.cell? ⟨w1.heap.size, 5, none⟩ = some (.slice A2 ms.length c2)) (by kernel_rfl) (by kernel_rfl) rfl (by kernel_rfl) (fun _ _ d _ _ h => by cases d <;> exact h) (by exact bx.d6) ?_
  repeat (first | (refine HL.take (v := ?_) (by rfl) ?_ ?_; rotate_left; (· (intro w hSw; (try dsimp only at hSw); go_simp; try with_reducible rfl)); (try simp only [Act.put, List.setIfInBounds_toArray, List.set_cons_zero, List.set_cons_succ])) | (refine HL.skip (by rfl) ?_; (try simp only [Act.put, List.setIfInBounds_toArray, List.set_cons_zero, List.set_cons_succ])))
  refine HL.call (by rfl) (fun K hK => ?_)
  go_simp
  refine (HTC.out _ (hE2.nx (Nx.refl _).drew)).mono ?_; rintro e w' ⟨rfl, rfl⟩
  go_wp2_with fail
  refine hK.out _ _ (by exact bx.d6) ?_
  clear hK K
  try simp only [Act.put, List.setIfInBounds_toArray, List.set_cons_zero, List.set_cons_succ]
  refine HL.call (by rfl) (fun K hK => ?_)
  go_simp
  refine hK.out _ _ (by exact ((bx.far6 hgx (.int .i64 g) (.int .i64 b) (.int .i64 p) (.int .i64 q) (.slice A xs.length c) (.slice A2 ms.length c2)).drew).d6) ?_
  clear hK K
  try simp only [Act.put, List.setIfInBounds_toArray, List.set_cons_zero, List.set_cons_succ]
  repeat (first | (refine HL.take (v := ?_) (by rfl) ?_ ?_; rotate_left; (· (intro w hSw; (try dsimp only at hSw); go_simp; try with_reducible rfl)); (try simp only [Act.put, List.setIfInBounds_toArray, List.set_cons_zero, List.set_cons_succ])) | (refine HL.skip (by rfl) ?_; (try simp only [Act.put, List.setIfInBounds_toArray, List.set_cons_zero, List.set_cons_succ])))
  refine HL.done ?_
  clear u0 u1 u2 u3 u4 u5 f0 f1 f2 f3 f4 f5
  go_wp2
  have qx := (put6_box b2 (.int .i64 g) (.int .i64 b) (.int .i64 p) (.int .i64 q) (.slice A xs.length c) (.slice A2 ms.length c2)).drew
  have hnf := (put6_nx hx2 (Nat.le_refl w.heap.size) (.int .i64 g) (.int .i64 b) (.int .i64 p) (.int .i64 q) (.slice A xs.length c) (.slice A2 ms.length c2)).drew
  have hsf := ((hS2.pt6 hgl (.int .i64 g) (.int .i64 b) (.int .i64 p) (.int .i64 q) (.slice A xs.length c) (.slice A2 ms.length c2)).nx (Nx.refl _).drew)
  change Sl (World.drew (put6 w2 w.heap.size (.int .i64 g) (.int .i64 b) (.int .i64 p) (.int .i64 q) (.slice A xs.length c) (.slice A2 ms.length c2))) _ _ _ _ _ at hsf
  have hmf := ((hM2.pt6 hgl (.int .i64 g) (.int .i64 b) (.int .i64 p) (.int .i64 q) (.slice A xs.length c) (.slice A2 ms.length c2)).nx (Nx.refl _).drew)
  change Sl (World.drew (put6 w2 w.heap.size (.int .i64 g) (.int .i64 b) (.int .i64 p) (.int .i64 q) (.slice A xs.length c) (.slice A2 ms.length c2))) _ _ _ _ _ at hmf
  change bodyPost _ _ _ _ _ (World.drew (put6 w2 w.heap.size (.int .i64 g) (.int .i64 b) (.int .i64 p) (.int .i64 q) (.slice A xs.length c) (.slice A2 ms.length c2)))
  change Box (World.drew (put6 w2 w.heap.size (.int .i64 g) (.int .i64 b) (.int .i64 p) (.int .i64 q) (.slice A xs.length c) (.slice A2 ms.length c2))) _ _ _ at qx
  generalize World.drew (put6 w2 w.heap.size (.int .i64 g) (.int .i64 b) (.int .i64 p) (.int .i64 q) (.slice A xs.length c) (.slice A2 ms.length c2)) = Wf at *
  obtain ⟨g0, g1, g2, g3, g4, g5⟩ := qx.d6
  exact bodyPost_ret (v := .tuple #[.agg #[.int .i64 g, .int .i64 b, .int .i64 p, .int .i64 q, .slice A xs.length c, .slice A2 ms.length c2], .int .i64 cd]) (by simp [results, Tryd.results11, go_sem, g0, g1, g2, g3, g4, g5]) rfl (RetRU.mk HA.out HCC.out (hsf.low (by omega)) (hmf.low (by omega)) hnf)

set_option maxHeartbeats 800000 in
theorem lawReadSuper (t : ByteArray) (w : World) (a0 a1 : Addr) (hE : Er w a0 a1) (hM : Mx w) (_hs : t.size ≤ maxLen) : Calls Tryd.prog 4 #[.string t] w fun e w' => e = .returned (.bool true) ∧ Nx w w' := by
  by_cases hb : t.size ≤ 1048576
  case neg =>
    have hb' : decide (1048576 < (t.size : Int)) = true := by simp; omega
    go_enter Tryd.func4, Tryd.ntmps4
    go_wp2
    go_ret
    exact ⟨rfl, Nx.refl _⟩
  have hb' : decide (1048576 < (t.size : Int)) = false := by simp; omega
  have hlen := suA_len t
  obtain ⟨⟨g, b, p, q, xs, ms⟩, Hq⟩ : ∃ u, Hid (suA t = u) := ⟨_, rfl⟩
  obtain ⟨cd, Hc⟩ : ∃ cd, Hid (suC t = cd) := ⟨_, rfl⟩
  rw [Hq.out] at hlen
  have Hn : Hid (xs.length ≤ 1048576) := Lib.hid hlen.1
  have Hn2 : Hid (ms.length ≤ 1048576) := Lib.hid hlen.2
  clear hlen
  obtain ⟨M, HM⟩ : ∃ M, Hid (1 + xs.length + ms.length * 2 = M) := ⟨_, rfl⟩
  have hM0 : decide ((M : Int) < 0) = false := by simp
  go_enter Tryd.func4, Tryd.ntmps4
  go_wp2_with fail
  refine (specReadSuper_c t _ hb).mono ?_
  rintro e w1 hR
  obtain ⟨hnx1, A0, c0, B0, d0, rfl, _, hs0, hm0⟩ := hR.un Hq.out Hc.out
  go_wp2_with fail
  have b1 := Box.new w1 31 #[.int .i64 g, .int .i64 b, .int .i64 p, .int .i64 q, .slice A0 xs.length c0, .slice B0 ms.length d0]
  have hx1 := hnx1.alloc (.cells #[.int .i64 g, .int .i64 b, .int .i64 p, .int .i64 q, .slice A0 xs.length c0, .slice B0 ms.length d0] 31)
  have hr0 := (hs0.nx ((Nx.refl w1).alloc (.cells #[.int .i64 g, .int .i64 b, .int .i64 p, .int .i64 q, .slice A0 xs.length c0, .slice B0 ms.length d0] 31))).row
  have hq0 := (hm0.nx ((Nx.refl w1).alloc (.cells #[.int .i64 g, .int .i64 b, .int .i64 p, .int .i64 q, .slice A0 xs.length c0, .slice B0 ms.length d0] 31))).row
  generalize w1.alloc (.cells #[.int .i64 g, .int .i64 b, .int .i64 p, .int .i64 q, .slice A0 xs.length c0, .slice B0 ms.length d0] 31) = W1 at *
  have hg1 := b1.lt
  refine (implReadSuper_c t _ a0 a1 (hE.nx hx1) (hM.nx hx1)).mono ?_
  rintro e w2 hR
  obtain ⟨hnx2, A1, c1, B1, d1, rfl, _, hs2, hm2⟩ := hR.un Hq.out Hc.out
  have b1' := b1.nx hnx2
  obtain ⟨y0, y1, y2, y3, y4, y5⟩ := b1'.d6
  have hlt := b1'.lt
  go_wp2_with fail
  have b2 := Box.new w2 31 #[.int .i64 g, .int .i64 b, .int .i64 p, .int .i64 q, .slice A1 xs.length c1, .slice B1 ms.length d1]
  have b3 := b1'.alloc (.cells #[.int .i64 g, .int .i64 b, .int .i64 p, .int .i64 q, .slice A1 xs.length c1, .slice B1 ms.length d1] 31)
  have hx2 := (hx1.trans hnx2).alloc (.cells #[.int .i64 g, .int .i64 b, .int .i64 p, .int .i64 q, .slice A1 xs.length c1, .slice B1 ms.length d1] 31)
  have hs3 := hs2.sr.nx ((Nx.refl w2).alloc (.cells #[.int .i64 g, .int .i64 b, .int .i64 p, .int .i64 q, .slice A1 xs.length c1, .slice B1 ms.length d1] 31))
  have hm3 := hm2.sr.nx ((Nx.refl w2).alloc (.cells #[.int .i64 g, .int .i64 b, .int .i64 p, .int .i64 q, .slice A1 xs.length c1, .slice B1 ms.length d1] 31))
  have hr3 := (hr0.below hnx2 (Nat.le_refl _)).below ((Nx.refl w2).alloc (.cells #[.int .i64 g, .int .i64 b, .int .i64 p, .int .i64 q, .slice A1 xs.length c1, .slice B1 ms.length d1] 31)) hnx2.size
  have hq3 := (hq0.below hnx2 (Nat.le_refl _)).below ((Nx.refl w2).alloc (.cells #[.int .i64 g, .int .i64 b, .int .i64 p, .int .i64 q, .slice A1 xs.length c1, .slice B1 ms.length d1] 31)) hnx2.size
  have hz2 := hnx2.size
  clear hR
  generalize w2.alloc (.cells #[.int .i64 g, .int .i64 b, .int .i64 p, .int .i64 q, .slice A1 xs.length c1, .slice B1 ms.length d1] 31) = W2 at *
  have hg2 := b2.lt
  clear y0 y1 y2 y3 y4 y5 b1 b1' hlt
  refine (eqSuper_c g b p q A1 B1 A0 B0 c1 d1 c0 d0 W2.heap.size xs ms _ hs3.sl.row hm3.sl.row (hr3.more (by omega)) (hq3.more (by omega)) (Nat.le_refl _) Hn.out Hn2.out).mono ?_
  rintro e w3 ⟨rfl, hnx3⟩
  have hz3 := hnx3.size
  have e1 := b3.nx hnx3
  have e2 := b2.nx hnx3
  have hx3 := hx2.trans hnx3
  have hs4 := hs3.nx hnx3
  have hm4 := hm3.nx hnx3
  have hr4 := hr3.below hnx3 (by omega)
  have hq4 := hq3.below hnx3 (by omega)
  clear b3 b2 hs3 hr3 hm3 hq3
  obtain ⟨y0, y1, y2, y3, y4, y5⟩ := e2.d6
  go_wp2_with fail
  refine (markSuper_c g b p q A1 B1 xs.length c1 ms.length d1 1 W1.heap.size w2.heap.size _ _ _ hs4 hm4 (by omega) Hn.out Hn2.out (by omega)).mono ?_
  rintro e w4 ⟨rfl, hs5, hm5, hrg⟩
  rw [HM.out]
  have e3 := e1.rg hrg (.inl hg1)
  have e4 := e2.rg hrg (.inr (Nat.le_refl _))
  have hx4 := Rg.nx_of hx3 hrg hx1.size
  have hr5 := hr4.below (hrg.below (by omega)) (Nat.le_refl _)
  have hq5 := hq4.below (hrg.below (by omega)) (Nat.le_refl _)
  have hz4 := hrg.size
  clear y0 y1 y2 y3 y4 y5 e1 e2 hs4 hr4 hm4 hq4
  obtain ⟨y0, y1, y2, y3, y4, y5⟩ := e4.d6
  go_wp2_with fail
  refine (heldSuper_c g b p q A1 B1 xs.length c1 ms.length d1 1 w4.heap.size _ hs5.sl.row hm5.sl.row (Nat.le_refl _) Hn.out Hn2.out (by omega)).mono ?_
  rintro e w5 ⟨rfl, hnx5⟩
  rw [HM.out]
  have hz5 := hnx5.size
  have hx5 := hx4.trans hnx5
  have e5 := e3.nx hnx5
  have e6 := e4.nx hnx5
  have hs6 := hs5.nx hnx5
  have hm6 := hm5.nx hnx5
  have hr6 := hr5.below hnx5 (by omega)
  have hq6 := hq5.below hnx5 (by omega)
  clear y0 y1 y2 y3 y4 y5 e3 e4 hs5 hr5 hm5 hq5
  go_wp2_with fail
  refine (implReadSuper_c t _ a0 a1 (hE.nx hx5) (hM.nx hx5)).mono ?_
  rintro e w6 hR
  obtain ⟨hnx6, A3, c3, B3, d3, rfl, _, hs7, hm7⟩ := hR.un Hq.out Hc.out
  have e7 := e5.nx hnx6
  have e8 := e6.nx hnx6
  obtain ⟨y0, y1, y2, y3, y4, y5⟩ := e7.d6
  have hlt := e7.lt
  go_wp2_with fail
  have e9 := e8.alloc (.cells #[.int .i64 g, .int .i64 b, .int .i64 p, .int .i64 q, .slice A3 xs.length c3, .slice B3 ms.length d3] 31)
  have hx6 := (hx5.trans hnx6).alloc (.cells #[.int .i64 g, .int .i64 b, .int .i64 p, .int .i64 q, .slice A3 xs.length c3, .slice B3 ms.length d3] 31)
  have hs8 := (hs6.nx hnx6).nx ((Nx.refl w6).alloc (.cells #[.int .i64 g, .int .i64 b, .int .i64 p, .int .i64 q, .slice A3 xs.length c3, .slice B3 ms.length d3] 31))
  have hm8 := (hm6.nx hnx6).nx ((Nx.refl w6).alloc (.cells #[.int .i64 g, .int .i64 b, .int .i64 p, .int .i64 q, .slice A3 xs.length c3, .slice B3 ms.length d3] 31))
  have hs9 := hs7.nx ((Nx.refl w6).alloc (.cells #[.int .i64 g, .int .i64 b, .int .i64 p, .int .i64 q, .slice A3 xs.length c3, .slice B3 ms.length d3] 31))
  have hm9 := hm7.nx ((Nx.refl w6).alloc (.cells #[.int .i64 g, .int .i64 b, .int .i64 p, .int .i64 q, .slice A3 xs.length c3, .slice B3 ms.length d3] 31))
  have hz6 := hnx6.size
  have hr7 := (hr6.below hnx6 (by omega)).below ((Nx.refl w6).alloc (.cells #[.int .i64 g, .int .i64 b, .int .i64 p, .int .i64 q, .slice A3 xs.length c3, .slice B3 ms.length d3] 31)) (by omega)
  have hq7 := (hq6.below hnx6 (by omega)).below ((Nx.refl w6).alloc (.cells #[.int .i64 g, .int .i64 b, .int .i64 p, .int .i64 q, .slice A3 xs.length c3, .slice B3 ms.length d3] 31)) (by omega)
  have hz7 : w6.heap.size ≤ (w6.alloc (.cells #[.int .i64 g, .int .i64 b, .int .i64 p, .int .i64 q, .slice A3 xs.length c3, .slice B3 ms.length d3] 31)).heap.size := by simp
  clear hR
  generalize w6.alloc (.cells #[.int .i64 g, .int .i64 b, .int .i64 p, .int .i64 q, .slice A3 xs.length c3, .slice B3 ms.length d3] 31) = W6 at *
  clear y0 y1 y2 y3 y4 y5
  refine (eqSuper_c g b p q A3 B3 A0 B0 c3 d3 c0 d0 W6.heap.size xs ms _ hs9.row hm9.row (hr7.more (by omega)) (hq7.more (by omega)) (Nat.le_refl _) Hn.out Hn2.out).mono ?_
  rintro e w7 ⟨rfl, hnx7⟩
  obtain ⟨y0, y1, y2, y3, y4, y5⟩ := (e9.nx hnx7).d6
  go_wp2_with fail
  refine (heldSuper_c g b p q A1 B1 xs.length c1 ms.length d1 1 w7.heap.size _ (hs8.nx hnx7).sl.row (hm8.nx hnx7).sl.row (Nat.le_refl _) Hn.out Hn2.out (by omega)).mono ?_
  rintro e w8 ⟨rfl, hnx8⟩
  rw [HM.out]
  go_wp2
  go_ret
  exact ⟨rfl, (hx6.trans hnx7).trans hnx8⟩
end Go.Proofs.YteckhdkghfidiaaDoor
