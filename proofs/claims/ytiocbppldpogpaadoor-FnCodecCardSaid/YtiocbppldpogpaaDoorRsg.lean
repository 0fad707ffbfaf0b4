/-
  Contracts of ReadSeg, as the model and as the program have it, and the walk of the law FnExactReadSeg.
  Conditions: the package's errors are known.
-/
import Derived.Test.YtiocbppldpogpaaDoorSgd
import Derived.Test.YtiocbppldpogpaaDoorSge
import Derived.Test.YtiocbppldpogpaaDoorMkg
namespace Go.Proofs.YtiocbppldpogpaaDoor
set_option linter.unusedVariables false
open Go.RowKit

/-- The segment and the code that a text has. -/
def sgA (t : ByteArray) : G4 := if t.size ≤ 65536 then (rdG t).getD zG else zG
def sgC (t : ByteArray) : Int := if t.size ≤ 65536 then (if (rdG t).isSome then 0 else 3) else 2
theorem sgA_long {t : ByteArray} (h : ¬ t.size ≤ 65536) : sgA t = zG ∧ sgC t = 2 := by unfold sgA sgC; rw [if_neg h, if_neg h]; exact ⟨rfl, rfl⟩
theorem sgA_none {t : ByteArray} (h : t.size ≤ 65536) (hr : rdG t = none) : sgA t = zG ∧ sgC t = 3 := by unfold sgA sgC; rw [if_pos h, if_pos h, hr]; exact ⟨rfl, rfl⟩
theorem sgA_some {t : ByteArray} {q : G4} (h : t.size ≤ 65536) (hr : rdG t = some q) : sgA t = q ∧ sgC t = 0 := by unfold sgA sgC; rw [if_pos h, if_pos h, hr]; exact ⟨rfl, rfl⟩
theorem sgA_len (t : ByteArray) : (sgA t).2.2.2.length ≤ 1048576 := by
  by_cases h : t.size ≤ 65536
  case neg => rw [(sgA_long h).1]; simp [zG]
  cases hr : rdG t with
  | none => rw [(sgA_none h hr).1]; simp [zG]
  | some q =>
    rw [(sgA_some h hr).1]
    cases hn : rdN t with
    | none => rw [rdG_none hn] at hr; cases hr
    | some ns =>
      have hl := rdN_len h hn
      unfold rdG at hr
      rw [hn] at hr
      simp only [Option.bind_some] at hr
      split at hr
      · injection hr with hr
        subst hr
        show (chOf ns (ns.length / 3 - 1)).length ≤ _
        rw [chOf_len]; omega
      · cases hr
def RetRG (w : World) (t : ByteArray) (e : Ending) (w' : World) : Prop :=
  Nx w w' ∧ ∃ A c, e = .returned (.tuple #[.agg #[.int .i64 (sgA t).1, .int .i64 (sgA t).2.1, .int .i64 (sgA t).2.2.1, .slice A (sgA t).2.2.2.length c], .int .i64 (sgC t)]) ∧ Sl w' w.heap.size A 66 ((sgA t).2.2.2.length * 3) (chAt (sgA t).2.2.2)
theorem RetRG.un {w w' : World} {t : ByteArray} {e : Ending} {q0 q1 q2 : Nat} {cs : List Chg} {cd : Int} (h : RetRG w t e w') (hq : sgA t = (q0, q1, q2, cs)) (hc : sgC t = cd) :
    Nx w w' ∧ ∃ A c, e = .returned (.tuple #[.agg #[.int .i64 q0, .int .i64 q1, .int .i64 q2, .slice A cs.length c], .int .i64 cd]) ∧ Sl w' w.heap.size A 66 (cs.length * 3) (chAt cs) := by
  unfold RetRG at h; rw [hq, hc] at h; exact h
theorem RetRG.mk {w w' : World} {t : ByteArray} {q0 q1 q2 c : Nat} {cs : List Chg} {cd : Int} {A : Option Addr} (hq : sgA t = (q0, q1, q2, cs) ∧ sgC t = cd) (hs : Sl w' w.heap.size A 66 (cs.length * 3) (chAt cs)) (hn : Nx w w') :
    RetRG w t (.returned (.tuple #[.agg #[.int .i64 q0, .int .i64 q1, .int .i64 q2, .slice A cs.length c], .int .i64 cd])) w' := by
  unfold RetRG; rw [hq.1, hq.2]; exact ⟨hn, A, c, rfl, hs⟩
theorem Sl.nil {w : World} {lo : Nat} : Sl w lo none 66 (([] : List Chg).length * 3) (chAt []) := fun h => absurd h (by simp)
theorem RetRG.zero {w w' : World} {t : ByteArray} {cd : Int} (hq : sgA t = zG ∧ sgC t = cd) (hn : Nx w w') :
    RetRG w t (.returned (.tuple #[.agg #[.int .i64 0, .int .i64 0, .int .i64 0, .slice none 0 0], .int .i64 cd])) w' := RetRG.mk (q0 := 0) (q1 := 0) (q2 := 0) (cs := []) hq Sl.nil hn

set_option maxRecDepth 100000 in
set_option maxHeartbeats 2000000 in
theorem specReadSeg_c (t : ByteArray) (w : World) (ht : t.size ≤ 1048576) : Calls Tryd.prog 22 #[.string t] w (RetRG w t) := by
  have b0 := Box.new w 25 #[.int .i64 0, .int .i64 0, .int .i64 0, .slice none 0 0]
  have hx0 := (Nx.refl w).alloc (.cells #[.int .i64 0, .int .i64 0, .int .i64 0, .slice none 0 0] 25)
  by_cases hl : t.size ≤ 65536
  case neg =>
    have hd : decide (65536 < (t.size : Int)) = true := by simp; omega
    have HA := Lib.hid (sgA_long hl)
    go_enter Tryd.func22, Tryd.ntmps22
    go_wp2
    refine bodyPost_ret (v := .tuple #[.agg #[.int .i64 0, .int .i64 0, .int .i64 0, .slice none 0 0], .int .i64 2]) (by simp [results, Tryd.results22, go_sem]) rfl (RetRG.zero HA.out hx0)
  have hd : decide (65536 < (t.size : Int)) = false := by simp; omega
  go_enter Tryd.func22, Tryd.ntmps22
  go_wp2_with fail
  generalize w.alloc (.cells #[.int .i64 0, .int .i64 0, .int .i64 0, .slice none 0 0] 25) = W at *
  have hgl := b0.lt
  refine (l02Read_c t _ hl).mono ?_
  rintro e w1 ⟨hnx1, h1, h2⟩
  have b1 := b0.nx hnx1
  have hx1 := hx0.trans hnx1
  clear b0 hx0 hnx1
  obtain ⟨c0, c1, c2, c3⟩ := b1.d4
  have f0 := b1.frozen 0
  have f1 := b1.frozen 1
  have f2 := b1.frozen 2
  have f3 := b1.frozen 3
  have hlt := b1.lt
  cases hr : rdG t with
  | none =>
    have HA := Lib.hid (sgA_none hl hr)
    obtain rfl := h1 hr
    clear h1 h2 hr
    go_wp2
    have q := ((put4_box b1 (.int .i64 0) (.int .i64 0) (.int .i64 0) (.slice none 0 0)).alloc (.cells #[.int .i64 0, .int .i64 0, .int .i64 0, .slice none 0 0] 25))
    have hnf := ((put4_nx hx1 (Nat.le_refl w.heap.size) (.int .i64 0) (.int .i64 0) (.int .i64 0) (.slice none 0 0)).alloc (.cells #[.int .i64 0, .int .i64 0, .int .i64 0, .slice none 0 0] 25))
    change bodyPost _ _ _ _ _ (World.alloc (put4 w1 w.heap.size (.int .i64 0) (.int .i64 0) (.int .i64 0) (.slice none 0 0)) (.cells #[.int .i64 0, .int .i64 0, .int .i64 0, .slice none 0 0] 25))
    change Box (World.alloc (put4 w1 w.heap.size (.int .i64 0) (.int .i64 0) (.int .i64 0) (.slice none 0 0)) (.cells #[.int .i64 0, .int .i64 0, .int .i64 0, .slice none 0 0] 25)) _ _ _ at q
    generalize World.alloc (put4 w1 w.heap.size (.int .i64 0) (.int .i64 0) (.int .i64 0) (.slice none 0 0)) (.cells #[.int .i64 0, .int .i64 0, .int .i64 0, .slice none 0 0] 25) = Wf at *
    obtain ⟨g0, g1, g2, g3⟩ := q.d4
    exact bodyPost_ret (v := .tuple #[.agg #[.int .i64 0, .int .i64 0, .int .i64 0, .slice none 0 0], .int .i64 3]) (by simp [results, Tryd.results22, go_sem, g0, g1, g2, g3]) rfl (RetRG.zero HA.out hnf)
  | some q =>
    have HA := Lib.hid (sgA_some hl hr)
    obtain ⟨q0, q1, q2, cs⟩ := q
    obtain ⟨A, c, he, hS1⟩ := h2 _ hr
    replace he : e = .returned (.tuple #[.agg #[.int .i64 q0, .int .i64 q1, .int .i64 q2, .slice A cs.length c], .bool true]) := he
    replace hS1 : Sl w1 W.heap.size A 66 (cs.length * 3) (chAt cs) := hS1
    subst he
    clear h1 h2 hr
    go_wp2
    have q := ((put4_box b1 (.int .i64 q0) (.int .i64 q1) (.int .i64 q2) (.slice A cs.length c)).alloc (.cells #[.int .i64 q0, .int .i64 q1, .int .i64 q2, .slice A cs.length c] 25))
    have hnf := ((put4_nx hx1 (Nat.le_refl w.heap.size) (.int .i64 q0) (.int .i64 q1) (.int .i64 q2) (.slice A cs.length c)).alloc (.cells #[.int .i64 q0, .int .i64 q1, .int .i64 q2, .slice A cs.length c] 25))
    have hsf := ((hS1.put4 hgl (.int .i64 q0) (.int .i64 q1) (.int .i64 q2) (.slice A cs.length c)).nx ((Nx.refl _).alloc (.cells #[.int .i64 q0, .int .i64 q1, .int .i64 q2, .slice A cs.length c] 25)))
    change Sl (World.alloc (put4 w1 w.heap.size (.int .i64 q0) (.int .i64 q1) (.int .i64 q2) (.slice A cs.length c)) (.cells #[.int .i64 q0, .int .i64 q1, .int .i64 q2, .slice A cs.length c] 25)) _ _ _ _ _ at hsf
    change bodyPost _ _ _ _ _ (World.alloc (put4 w1 w.heap.size (.int .i64 q0) (.int .i64 q1) (.int .i64 q2) (.slice A cs.length c)) (.cells #[.int .i64 q0, .int .i64 q1, .int .i64 q2, .slice A cs.length c] 25))
    change Box (World.alloc (put4 w1 w.heap.size (.int .i64 q0) (.int .i64 q1) (.int .i64 q2) (.slice A cs.length c)) (.cells #[.int .i64 q0, .int .i64 q1, .int .i64 q2, .slice A cs.length c] 25)) _ _ _ at q
    generalize World.alloc (put4 w1 w.heap.size (.int .i64 q0) (.int .i64 q1) (.int .i64 q2) (.slice A cs.length c)) (.cells #[.int .i64 q0, .int .i64 q1, .int .i64 q2, .slice A cs.length c] 25) = Wf at *
    obtain ⟨g0, g1, g2, g3⟩ := q.d4
    exact bodyPost_ret (v := .tuple #[.agg #[.int .i64 q0, .int .i64 q1, .int .i64 q2, .slice A cs.length c], .int .i64 0]) (by simp [results, Tryd.results22, go_sem, g0, g1, g2, g3]) rfl (RetRG.mk HA.out (hsf.low (by omega)) hnf)

/-- What segOfText answers, in one form: a segment, an error, and the code that it has. -/
theorem segText_any (t : ByteArray) (w : World) (a0 a1 : Addr) (hE : Er w a0 a1) :
    ∃ (q0 q1 q2 : Nat) (cs : List Chg) (ev : Value) (cd : Int), (sgA t = (q0, q1, q2, cs) ∧ sgC t = cd) ∧
      (∀ w', Er w' a0 a1 → Calls Tryd.prog 38 #[ev] w' fun e w'' => e = .returned (.int .i64 cd) ∧ w' = w'') ∧
      ∀ w', Er w' a0 a1 → Calls Tryd.prog 37 #[.string t] w' fun e w'' => ∃ A c, e = .returned (.tuple #[.agg #[.int .i64 q0, .int .i64 q1, .int .i64 q2, .slice A cs.length c], ev]) ∧ Nx w' w'' ∧ Sl w'' w'.heap.size A 66 (cs.length * 3) (chAt cs) := by
  by_cases hl : t.size ≤ 65536
  case neg =>
    exact ⟨0, 0, 0, [], _, 2, sgA_long hl, fun w' h => textCode_long w' a0 a1 h, fun w' h => (segOfTextLong_c t w' a0 a1 (by omega) h).mono fun e w'' ⟨he, hn⟩ => ⟨none, 0, he, hn, Sl.nil⟩⟩
  cases hr : rdG t with
  | none => exact ⟨0, 0, 0, [], _, 3, sgA_none hl hr, fun w' h => textCode_form w' a0 a1 h, fun w' h => (segOfText_c t w' a0 a1 hl h).mono fun e w'' ⟨hn, h1, h2⟩ => ⟨none, 0, h1 hr, hn, Sl.nil⟩⟩
  | some q =>
    obtain ⟨q0, q1, q2, cs⟩ := q
    exact ⟨q0, q1, q2, cs, _, 0, sgA_some hl hr, fun w' h => textCode_nil w', fun w' h => (segOfText_c t w' a0 a1 hl h).mono fun e w'' ⟨hn, h1, h2⟩ => by
      obtain ⟨A, c, he, hs⟩ := h2 _ hr
      exact ⟨A, c, he, hn, hs⟩⟩
set_option maxRecDepth 100000 in
set_option maxHeartbeats 4000000 in
theorem implReadSeg_c (t : ByteArray) (w : World) (a0 a1 : Addr) (hE : Er w a0 a1) : Calls Tryd.prog 10 #[.string t] w (RetRG w t) := by
  obtain ⟨q0, q1, q2, cs, ev, cd, hA, hTC, hFT⟩ := segText_any t w a0 a1 hE
  have HA := Lib.hid hA
  have HTC := Lib.hid hTC
  have HFT := Lib.hid hFT
  clear hA hTC hFT
  have b0 := Box.new w 25 #[.int .i64 0, .int .i64 0, .int .i64 0, .slice none 0 0]
  have hx0 := (Nx.refl w).alloc (.cells #[.int .i64 0, .int .i64 0, .int .i64 0, .slice none 0 0] 25)
  go_enter Tryd.func10, Tryd.ntmps10
  go_wp2_with fail
  generalize w.alloc (.cells #[.int .i64 0, .int .i64 0, .int .i64 0, .slice none 0 0] 25) = W at *
  have hgl := b0.lt
  refine (HFT.out _ (hE.nx hx0)).mono ?_
  rintro e w1 ⟨A, c, rfl, hnx1, hS1⟩
  go_wp2_with fail
  have b2 := (b0.nx hnx1).alloc (.cells #[.int .i64 q0, .int .i64 q1, .int .i64 q2, .slice A cs.length c] 25)
  have bx := Box.new w1 25 #[.int .i64 q0, .int .i64 q1, .int .i64 q2, .slice A cs.length c]
  have hgx : w1.heap.size ≠ w.heap.size := by have := (b0.nx hnx1).lt; omega
  have hx2 := (hx0.trans hnx1).alloc (.cells #[.int .i64 q0, .int .i64 q1, .int .i64 q2, .slice A cs.length c] 25)
  have hS2 := hS1.nx ((Nx.refl w1).alloc (.cells #[.int .i64 q0, .int .i64 q1, .int .i64 q2, .slice A cs.length c] 25))
  have hE2 := hE.nx hx2
  generalize w1.alloc (.cells #[.int .i64 q0, .int .i64 q1, .int .i64 q2, .slice A cs.length c] 25) = w2 at *
  obtain ⟨c0, c1, c2, c3⟩ := b2.d4
  have f0 := b2.frozen 0
  have f1 := b2.frozen 1
  have f2 := b2.frozen 2
  have f3 := b2.frozen 3
  refine wp_region_lex [false, false, true, true, false] (fun w' => w'.cell? ⟨w1.heap.size, 0, none⟩ = some (.int .i64 q0) ∧ w'.cell? ⟨w1.heap.size, 1, none⟩ = some (.int .i64 q1) ∧ w'.cell? ⟨w1.heap.size, 2, none⟩ = some (.int .i64 q2) ∧ w'.cell? ⟨w1.heap.size, 3, none⟩ = some (.slice A cs.length c)) (by kernel_rfl) (by kernel_rfl) rfl (by kernel_rfl) (fun _ _ d _ _ h => by cases d <;> exact h) (by exact bx.d4) ?_
  repeat (first | (refine HL.take (v := ?_) (by rfl) ?_ ?_; rotate_left; (· (intro w hSw; (try dsimp only at hSw); go_simp; try with_reducible rfl)); (try simp only [Act.put, List.setIfInBounds_toArray, List.set_cons_zero, List.set_cons_succ])) | (refine HL.skip (by rfl) ?_; (try simp only [Act.put, List.setIfInBounds_toArray, List.set_cons_zero, List.set_cons_succ])))
  refine HL.call (by rfl) (fun K hK => ?_)
  go_simp
  refine (HTC.out _ (hE2.nx (Nx.refl _).drew)).mono ?_; rintro e w' ⟨rfl, rfl⟩
  go_wp2_with fail
  refine hK.out _ _ (by exact bx.d4) ?_
  clear hK K
  try simp only [Act.put, List.setIfInBounds_toArray, List.set_cons_zero, List.set_cons_succ]
  refine HL.call (by rfl) (fun K hK => ?_)
  go_simp
  refine hK.out _ _ (by exact (bx.far4 hgx (.int .i64 q0) (.int .i64 q1) (.int .i64 q2) (.slice A cs.length c)).d4) ?_
  clear hK K
  try simp only [Act.put, List.setIfInBounds_toArray, List.set_cons_zero, List.set_cons_succ]
  repeat (first | (refine HL.take (v := ?_) (by rfl) ?_ ?_; rotate_left; (· (intro w hSw; (try dsimp only at hSw); go_simp; try with_reducible rfl)); (try simp only [Act.put, List.setIfInBounds_toArray, List.set_cons_zero, List.set_cons_succ])) | (refine HL.skip (by rfl) ?_; (try simp only [Act.put, List.setIfInBounds_toArray, List.set_cons_zero, List.set_cons_succ])))
  refine HL.done ?_
  clear c0 c1 c2 c3 f0 f1 f2 f3
  go_wp2
  have q := (put4_box b2 (.int .i64 q0) (.int .i64 q1) (.int .i64 q2) (.slice A cs.length c))
  have hnf := (put4_nx hx2 (Nat.le_refl w.heap.size) (.int .i64 q0) (.int .i64 q1) (.int .i64 q2) (.slice A cs.length c)).drew
  have hsf := (hS2.put4 hgl (.int .i64 q0) (.int .i64 q1) (.int .i64 q2) (.slice A cs.length c))
  change Sl (World.drew (put4 w2 w.heap.size (.int .i64 q0) (.int .i64 q1) (.int .i64 q2) (.slice A cs.length c))) _ _ _ _ _ at hsf
  change bodyPost _ _ _ _ _ (World.drew (put4 w2 w.heap.size (.int .i64 q0) (.int .i64 q1) (.int .i64 q2) (.slice A cs.length c)))
  change Box (World.drew (put4 w2 w.heap.size (.int .i64 q0) (.int .i64 q1) (.int .i64 q2) (.slice A cs.length c))) _ _ _ at q
  generalize World.drew (put4 w2 w.heap.size (.int .i64 q0) (.int .i64 q1) (.int .i64 q2) (.slice A cs.length c)) = Wf at *
  obtain ⟨g0, g1, g2, g3⟩ := q.d4
  exact bodyPost_ret (v := .tuple #[.agg #[.int .i64 q0, .int .i64 q1, .int .i64 q2, .slice A cs.length c], .int .i64 cd]) (by simp [results, Tryd.results10, go_sem, g0, g1, g2, g3]) rfl (RetRG.mk HA.out (hsf.low (by omega)) hnf)

set_option maxRecDepth 100000 in
set_option maxHeartbeats 4000000 in
theorem lawReadSeg (t : ByteArray) (w : World) (a0 a1 : Addr) (hE : Er w a0 a1) (_hs : t.size ≤ maxLen) : Calls Tryd.prog 4 #[.string t] w fun e w' => e = .returned (.bool true) ∧ Nx w w' := by
  by_cases hb : t.size ≤ 1048576
  case neg =>
    have hb' : decide (1048576 < (t.size : Int)) = true := by simp; omega
    go_enter Tryd.func4, Tryd.ntmps4
    go_wp2
    go_ret
    exact ⟨rfl, Nx.refl _⟩
  have hb' : decide (1048576 < (t.size : Int)) = false := by simp; omega
  obtain ⟨⟨q0, q1, q2, cs⟩, Hq⟩ : ∃ q, Hid (sgA t = q) := ⟨_, rfl⟩
  obtain ⟨cd, Hc⟩ : ∃ cd, Hid (sgC t = cd) := ⟨_, rfl⟩
  have Hn : Hid (cs.length ≤ 1048576) := Lib.hid (by have := sgA_len t; rw [Hq.out] at this; exact this)
  obtain ⟨M, HM⟩ : ∃ M, Hid (1 + cs.length * 3 = M) := ⟨_, rfl⟩
  have hM : decide ((M : Int) < 0) = false := by simp
  go_enter Tryd.func4, Tryd.ntmps4
  go_wp2_with fail
  refine (specReadSeg_c t _ hb).mono ?_
  rintro e w1 hR
  obtain ⟨hnx1, A0, p0, rfl, hs0⟩ := hR.un Hq.out Hc.out
  go_wp2_with fail
  have b1 := Box.new w1 25 #[.int .i64 q0, .int .i64 q1, .int .i64 q2, .slice A0 cs.length p0]
  have hx1 := hnx1.alloc (.cells #[.int .i64 q0, .int .i64 q1, .int .i64 q2, .slice A0 cs.length p0] 25)
  have hr0 := (hs0.nx ((Nx.refl w1).alloc (.cells #[.int .i64 q0, .int .i64 q1, .int .i64 q2, .slice A0 cs.length p0] 25))).row
  generalize w1.alloc (.cells #[.int .i64 q0, .int .i64 q1, .int .i64 q2, .slice A0 cs.length p0] 25) = W1 at *
  have hg1 := b1.lt
  refine (implReadSeg_c t _ a0 a1 (hE.nx hx1)).mono ?_
  rintro e w2 hR
  obtain ⟨hnx2, A1, p1, rfl, hs2⟩ := hR.un Hq.out Hc.out
  have b1' := b1.nx hnx2
  obtain ⟨c0, c1, c2, c3⟩ := b1'.d4
  have hlt := b1'.lt
  go_wp2_with fail
  have b2 := Box.new w2 25 #[.int .i64 q0, .int .i64 q1, .int .i64 q2, .slice A1 cs.length p1]
  have b3 := b1'.alloc (.cells #[.int .i64 q0, .int .i64 q1, .int .i64 q2, .slice A1 cs.length p1] 25)
  have hx2 := (hx1.trans hnx2).alloc (.cells #[.int .i64 q0, .int .i64 q1, .int .i64 q2, .slice A1 cs.length p1] 25)
  have hs3 := hs2.sr.nx ((Nx.refl w2).alloc (.cells #[.int .i64 q0, .int .i64 q1, .int .i64 q2, .slice A1 cs.length p1] 25))
  have hr3 := (hr0.below hnx2 (Nat.le_refl _)).below ((Nx.refl w2).alloc (.cells #[.int .i64 q0, .int .i64 q1, .int .i64 q2, .slice A1 cs.length p1] 25)) hnx2.size
  have hz2 := hnx2.size
  clear hR
  generalize w2.alloc (.cells #[.int .i64 q0, .int .i64 q1, .int .i64 q2, .slice A1 cs.length p1] 25) = W2 at *
  have hg2 := b2.lt
  clear c0 c1 c2 c3 b1 b1' hlt
  refine (eqSeg_c q0 q1 q2 A1 A0 p1 p0 W2.heap.size cs _ hs3.sl.row (hr3.more (by omega)) (Nat.le_refl _) Hn.out).mono ?_
  rintro e w3 ⟨rfl, hnx3⟩
  have hz3 := hnx3.size
  have e1 := b3.nx hnx3
  have e2 := b2.nx hnx3
  have hx3 := hx2.trans hnx3
  have hs4 := hs3.nx hnx3
  have hr4 := hr3.below hnx3 (by omega)
  clear b3 b2 hs3 hr3
  obtain ⟨c0, c1, c2, c3⟩ := e2.d4
  go_wp2_with fail
  refine (markSeg_c q0 q1 q2 A1 cs.length p1 W1.heap.size w2.heap.size _ _ hs4 (by omega) Hn.out).mono ?_
  rintro e w4 ⟨rfl, hs5, hrg⟩
  rw [HM.out]
  have e3 := e1.rg hrg (.inl hg1)
  have e4 := e2.rg hrg (.inr (Nat.le_refl _))
  have hx4 := Rg.nx_of hx3 hrg hx1.size
  have hr5 := hr4.below (hrg.below (by omega)) (Nat.le_refl _)
  have hz4 := hrg.size
  clear c0 c1 c2 c3 e1 e2 hs4 hr4
  obtain ⟨c0, c1, c2, c3⟩ := e4.d4
  go_wp2_with fail
  refine (heldSeg_c q0 q1 q2 A1 cs.length p1 w4.heap.size _ hs5.sl.row (Nat.le_refl _) Hn.out).mono ?_
  rintro e w5 ⟨rfl, hnx5⟩
  rw [HM.out]
  have hz5 := hnx5.size
  have hx5 := hx4.trans hnx5
  have e5 := e3.nx hnx5
  have e6 := e4.nx hnx5
  have hs6 := hs5.nx hnx5
  have hr6 := hr5.below hnx5 (by omega)
  clear c0 c1 c2 c3 e3 e4 hs5 hr5
  go_wp2_with fail
  refine (implReadSeg_c t _ a0 a1 (hE.nx hx5)).mono ?_
  rintro e w6 hR
  obtain ⟨hnx6, A2, p2, rfl, hs7⟩ := hR.un Hq.out Hc.out
  have e7 := e5.nx hnx6
  have e8 := e6.nx hnx6
  obtain ⟨c0, c1, c2, c3⟩ := e7.d4
  have hlt := e7.lt
  go_wp2_with fail
  have e9 := e8.alloc (.cells #[.int .i64 q0, .int .i64 q1, .int .i64 q2, .slice A2 cs.length p2] 25)
  have hx6 := (hx5.trans hnx6).alloc (.cells #[.int .i64 q0, .int .i64 q1, .int .i64 q2, .slice A2 cs.length p2] 25)
  have hs8 := (hs6.nx hnx6).nx ((Nx.refl w6).alloc (.cells #[.int .i64 q0, .int .i64 q1, .int .i64 q2, .slice A2 cs.length p2] 25))
  have hs9 := hs7.nx ((Nx.refl w6).alloc (.cells #[.int .i64 q0, .int .i64 q1, .int .i64 q2, .slice A2 cs.length p2] 25))
  have hz6 := hnx6.size
  have hr7 := (hr6.below hnx6 (by omega)).below ((Nx.refl w6).alloc (.cells #[.int .i64 q0, .int .i64 q1, .int .i64 q2, .slice A2 cs.length p2] 25)) (by omega)
  have hz7 : w6.heap.size ≤ (w6.alloc (.cells #[.int .i64 q0, .int .i64 q1, .int .i64 q2, .slice A2 cs.length p2] 25)).heap.size := by simp
  clear hR
  generalize w6.alloc (.cells #[.int .i64 q0, .int .i64 q1, .int .i64 q2, .slice A2 cs.length p2] 25) = W6 at *
  clear c0 c1 c2 c3
  refine (eqSeg_c q0 q1 q2 A2 A0 p2 p0 W6.heap.size cs _ hs9.row (hr7.more (by omega)) (Nat.le_refl _) Hn.out).mono ?_
  rintro e w7 ⟨rfl, hnx7⟩
  obtain ⟨c0, c1, c2, c3⟩ := (e9.nx hnx7).d4
  go_wp2_with fail
  refine (heldSeg_c q0 q1 q2 A1 cs.length p1 w7.heap.size _ (hs8.nx hnx7).sl.row (Nat.le_refl _) Hn.out).mono ?_
  rintro e w8 ⟨rfl, hnx8⟩
  rw [HM.out]
  go_wp2
  go_ret
  exact ⟨rfl, (hx6.trans hnx7).trans hnx8⟩
end Go.Proofs.YtiocbppldpogpaaDoor
