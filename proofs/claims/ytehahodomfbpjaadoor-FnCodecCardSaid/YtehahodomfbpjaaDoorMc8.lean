/-
  Texts of the proof, put together in their order: Rsg, Drw, Rbk, Cdc.
  Conditions: those of each.
-/
import Derived.Test.YtehahodomfbpjaaDoorMc7
/- Contracts of ReadSeg, as the model and as the program have it, and the walk of the law FnExactReadSeg. Conditions: the package's errors are known. -/
namespace Go.Proofs.YtehahodomfbpjaaDoor
set_option linter.unusedVariables false
set_option maxRecDepth 100000
open Go.RowKit

/-- The segment and the code that a text has. -/
def sgA (t : ByteArray) : G4 := if t.size ≤ 65536 then (rdG t).getD zG else zG
def sgC (t : ByteArray) : Int := if t.size ≤ 65536 then (if (rdG t).isSome then 0 else 3) else 2
theorem sgA_long {t : ByteArray} (h : ¬ t.size ≤ 65536) : sgA t = zG ∧ sgC t = 2 := by unfold sgA sgC; rw [if_neg h, if_neg h]; exact ⟨rfl, rfl⟩
theorem sgA_none {t : ByteArray} (h : t.size ≤ 65536) (hr : rdG t = none) : sgA t = zG ∧ sgC t = 3 := by unfold sgA sgC; rw [if_pos h, if_pos h, hr]; exact ⟨rfl, rfl⟩
theorem sgA_some {t : ByteArray} {q : G4} (h : t.size ≤ 65536) (hr : rdG t = some q) : sgA t = q ∧ sgC t = 0 := by unfold sgA sgC; rw [if_pos h, if_pos h, hr]; exact ⟨rfl, rfl⟩
def RetRG (w : World) (t : ByteArray) (e : Ending) (w' : World) : Prop :=
  Nx w w' ∧ ∃ A c, e = .returned (.tuple #[.agg #[.int .i64 (sgA t).1, .int .i64 (sgA t).2.1, .int .i64 (sgA t).2.2.1, .slice A (sgA t).2.2.2.length c], .int .i64 (sgC t)]) ∧ Sl w' w.heap.size A 85 ((sgA t).2.2.2.length * 3) (chAt (sgA t).2.2.2)
theorem RetRG.un {w w' : World} {t : ByteArray} {e : Ending} {q0 q1 q2 : Nat} {cs : List Chg} {cd : Int} (h : RetRG w t e w') (hq : sgA t = (q0, q1, q2, cs)) (hc : sgC t = cd) :
    Nx w w' ∧ ∃ A c, e = .returned (.tuple #[.agg #[.int .i64 q0, .int .i64 q1, .int .i64 q2, .slice A cs.length c], .int .i64 cd]) ∧ Sl w' w.heap.size A 85 (cs.length * 3) (chAt cs) := by
  unfold RetRG at h; rw [hq, hc] at h; exact h
theorem RetRG.mk {w w' : World} {t : ByteArray} {q0 q1 q2 c : Nat} {cs : List Chg} {cd : Int} {A : Option Addr} (hq : sgA t = (q0, q1, q2, cs) ∧ sgC t = cd) (hs : Sl w' w.heap.size A 85 (cs.length * 3) (chAt cs)) (hn : Nx w w') :
    RetRG w t (.returned (.tuple #[.agg #[.int .i64 q0, .int .i64 q1, .int .i64 q2, .slice A cs.length c], .int .i64 cd])) w' := by
  unfold RetRG; rw [hq.1, hq.2]; exact ⟨hn, A, c, rfl, hs⟩
theorem Sl.nil {w : World} {lo : Nat} : Sl w lo none 85 (([] : List Chg).length * 3) (chAt []) := fun h => absurd h (by simp)
theorem RetRG.zero {w w' : World} {t : ByteArray} {cd : Int} (hq : sgA t = zG ∧ sgC t = cd) (hn : Nx w w') :
    RetRG w t (.returned (.tuple #[.agg #[.int .i64 0, .int .i64 0, .int .i64 0, .slice none 0 0], .int .i64 cd])) w' := RetRG.mk (q0 := 0) (q1 := 0) (q2 := 0) (cs := []) hq Sl.nil hn

/-- What segOfText answers, in one form: a segment, an error, and the code that it has. -/
theorem segText_any (t : ByteArray) (w : World) (a0 a1 : Addr) (hE : Er w a0 a1) :
    ∃ (q0 q1 q2 : Nat) (cs : List Chg) (ev : Value) (cd : Int), (sgA t = (q0, q1, q2, cs) ∧ sgC t = cd) ∧
      (∀ w', Er w' a0 a1 → Calls Tryd.prog 50 #[ev] w' fun e w'' => e = .returned (.int .i64 cd) ∧ w' = w'') ∧
      ∀ w', Er w' a0 a1 → Calls Tryd.prog 49 #[.string t] w' fun e w'' => ∃ A c, e = .returned (.tuple #[.agg #[.int .i64 q0, .int .i64 q1, .int .i64 q2, .slice A cs.length c], ev]) ∧ Nx w' w'' ∧ Sl w'' w'.heap.size A 85 (cs.length * 3) (chAt cs) := by
  by_cases hl : t.size ≤ 65536
  case neg =>
    exact ⟨0, 0, 0, [], _, 2, sgA_long hl, fun w' h => textCode_long w' a0 a1 h, fun w' h => (segOfTextLong_c t w' a0 a1 (by omega) h).mono fun e w'' ⟨he, hn⟩ => ⟨none, 0, he, hn, Sl.nil⟩⟩
  cases hr : rdG t with
  | none => exact ⟨0, 0, 0, [], _, 3, sgA_none hl hr, fun w' h => textCode_form w' a0 a1 h, fun w' h => (segOfText_c t w' a0 a1 hl h).mono fun e w'' ⟨hn, h1, h2⟩ => ⟨none, 0, h1 hr, hn, Sl.nil⟩⟩
  | some q =>
    obtain ⟨q0, q1, q2, cs⟩ := q
    exact ⟨q0, q1, q2, cs, _, 0, sgA_some hl hr, fun w' h => textCode_nil w', fun w' h => (segOfText_c t w' a0 a1 hl h).mono fun e w'' ⟨hn, h1, h2⟩ => by
      obtain ⟨A, c, he, hs⟩ := h2 _ hr
      exact ⟨A, c, he, hn, hs⟩⟩
set_option maxRecDepth 100000 in
set_option maxHeartbeats 4000000 in
theorem implReadSeg_c (t : ByteArray) (w : World) (a0 a1 : Addr) (hE : Er w a0 a1) : Calls Tryd.prog 17 #[.string t] w (RetRG w t) := by
  obtain ⟨q0, q1, q2, cs, ev, cd, hA, hTC, hFT⟩ := segText_any t w a0 a1 hE
  have HA := Lib.hid hA
  have HTC := Lib.hid hTC
  have HFT := Lib.hid hFT
  clear hA hTC hFT
  have b0 := Box.new w 38 #[.int .i64 0, .int .i64 0, .int .i64 0, .slice none 0 0]
  have hx0 := (Nx.refl w).alloc (.cells #[.int .i64 0, .int .i64 0, .int .i64 0, .slice none 0 0] 38)
  go_enter Tryd.func17, Tryd.ntmps17
  go_wp2_with fail
  generalize w.alloc (.cells #[.int .i64 0, .int .i64 0, .int .i64 0, .slice none 0 0] 38) = W at *
  have hgl := b0.lt
  refine (HFT.out _ (hE.nx hx0)).mono ?_
  rintro e w1 ⟨A, c, rfl, hnx1, hS1⟩
  go_wp2_with fail
  have b2 := (b0.nx hnx1).alloc (.cells #[.int .i64 q0, .int .i64 q1, .int .i64 q2, .slice A cs.length c] 38)
  have bx := Box.new w1 38 #[.int .i64 q0, .int .i64 q1, .int .i64 q2, .slice A cs.length c]
  have hgx : w1.heap.size ≠ w.heap.size := by have := (b0.nx hnx1).lt; omega
  have hx2 := (hx0.trans hnx1).alloc (.cells #[.int .i64 q0, .int .i64 q1, .int .i64 q2, .slice A cs.length c] 38)
  have hS2 := hS1.nx ((Nx.refl w1).alloc (.cells #[.int .i64 q0, .int .i64 q1, .int .i64 q2, .slice A cs.length c] 38))
  have hE2 := hE.nx hx2
  generalize w1.alloc (.cells #[.int .i64 q0, .int .i64 q1, .int .i64 q2, .slice A cs.length c] 38) = w2 at *
  obtain ⟨c0, c1, c2, c3⟩ := b2.d4
  have f0 := b2.frozen 0
  have f1 := b2.frozen 1
  have f2 := b2.frozen 2
  have f3 := b2.frozen 3
  refine wp_region_lex [false, false, true, true, false] (fun w' => w'.cell? ⟨w1.heap.size, 0, none⟩ = some (.int .i64 q0) ∧ w'.cell? ⟨w1.heap.size, 1, none⟩ = some (.int .i64 q1) ∧ w'.cell? ⟨w1.heap.size, 2, none⟩ = some (.int .i64 q2) ∧ w'.cell? ⟨w1.heap.size, 3, none⟩ = some (.slice A cs.length c)) (by kernel_rfl) (by kernel_rfl) rfl (by kernel_rfl) (fun _ _ d _ _ h => by cases d <;> exact h) (by exact bx.d4) ?_
  repeat (first | (refine HL.take (v := ?_) (by rfl) ?_ ?_; rotate_left; (· (intro w hSw; (try dsimp only at hSw); go_simp; try with_reducible rfl)); (try simp only [Act.put, List.setIfInBounds_toArray, List.set_cons_zero, List.set_cons_succ])) | (refine HL.skip (by rfl) ?_; (try simp only [Act.put, List.setIfInBounds_toArray, List.set_cons_zero, List.set_cons_succ])))
  refine HL.call (by rfl) (fun K hK => ?_)
  go_simp
  refine (HTC.out _ (hE2.nx (Nx.refl _).drew)).mono ?_; rintro e w' ⟨rfl, rfl⟩
  go_wp2_with fail
  refine hK.out _ _ (by exact bx.d4) ?_
  clear hK K
  try simp only [Act.put, List.setIfInBounds_toArray, List.set_cons_zero, List.set_cons_succ]
  refine HL.call (by rfl) (fun K hK => ?_)
  go_simp
  refine hK.out _ _ (by exact (bx.far4 hgx (.int .i64 q0) (.int .i64 q1) (.int .i64 q2) (.slice A cs.length c)).d4) ?_
  clear hK K
  try simp only [Act.put, List.setIfInBounds_toArray, List.set_cons_zero, List.set_cons_succ]
  repeat (first | (refine HL.take (v := ?_) (by rfl) ?_ ?_; rotate_left; (· (intro w hSw; (try dsimp only at hSw); go_simp; try with_reducible rfl)); (try simp only [Act.put, List.setIfInBounds_toArray, List.set_cons_zero, List.set_cons_succ])) | (refine HL.skip (by rfl) ?_; (try simp only [Act.put, List.setIfInBounds_toArray, List.set_cons_zero, List.set_cons_succ])))
  refine HL.done ?_
  clear c0 c1 c2 c3 f0 f1 f2 f3
  go_wp2
  have q := (put4_box b2 (.int .i64 q0) (.int .i64 q1) (.int .i64 q2) (.slice A cs.length c))
  have hnf := (put4_nx hx2 (Nat.le_refl w.heap.size) (.int .i64 q0) (.int .i64 q1) (.int .i64 q2) (.slice A cs.length c)).drew
  have hsf := (hS2.put4 hgl (.int .i64 q0) (.int .i64 q1) (.int .i64 q2) (.slice A cs.length c))
  change Sl (World.drew (put4 w2 w.heap.size (.int .i64 q0) (.int .i64 q1) (.int .i64 q2) (.slice A cs.length c))) _ _ _ _ _ at hsf
  change bodyPost _ _ _ _ _ (World.drew (put4 w2 w.heap.size (.int .i64 q0) (.int .i64 q1) (.int .i64 q2) (.slice A cs.length c)))
  change Box (World.drew (put4 w2 w.heap.size (.int .i64 q0) (.int .i64 q1) (.int .i64 q2) (.slice A cs.length c))) _ _ _ at q
  generalize World.drew (put4 w2 w.heap.size (.int .i64 q0) (.int .i64 q1) (.int .i64 q2) (.slice A cs.length c)) = Wf at *
  obtain ⟨g0, g1, g2, g3⟩ := q.d4
  exact bodyPost_ret (v := .tuple #[.agg #[.int .i64 q0, .int .i64 q1, .int .i64 q2, .slice A cs.length c], .int .i64 cd]) (by simp [results, Tryd.results17, go_sem, g0, g1, g2, g3]) rfl (RetRG.mk HA.out (hsf.low (by omega)) hnf)

end Go.Proofs.YtehahodomfbpjaaDoor
/- Drawn frames and segments: what the model's source of choices makes is right. Conditions: the code can be read, and holds at most 1048576 bytes. -/
namespace Go.Proofs.YtehahodomfbpjaaDoor
set_option linter.unusedVariables false
set_option maxRecDepth 100000
open Go.RowKit

set_option maxRecDepth 100000 in
set_option maxHeartbeats 2000000 in
theorem frame_c (g : Nat) (A : Option Addr) (n c B : Nat) (ys : List Nat) (w : World) (hb : SrcR w g A n c 0) (h : U8s w B A n ys) (hB : B ≤ g) (hn : n ≤ 1048576) :
    Calls Tryd.prog 44 #[.pointer (some ⟨g, 0, none⟩)] w fun e w' => ∃ q : F4, e = .returned (vF q) ∧ frameB q.1 q.2.1 q.2.2.1 q.2.2.2 = true ∧ Rg g (g + 1) w w' := by
  have hz0 := hb.lt
  have b0 := Box.new w 41 #[.int .i64 0, .int .i64 0, .int .i64 0, .int .i64 0]
  have hx0 := (Nx.refl w).alloc (.cells #[.int .i64 0, .int .i64 0, .int .i64 0, .int .i64 0] 41)
  have s0 := hb.nx hx0
  have u0 := h.below hx0 (by omega)
  have r0 : Rg g (g + 1) w (w.alloc (.cells #[.int .i64 0, .int .i64 0, .int .i64 0, .int .i64 0] 41)) := Rg.of_nx hx0
  clear hb h hx0
  go_enter Tryd.func44, Tryd.ntmps44
  go_wp2_with fail
  generalize w.alloc (.cells #[.int .i64 0, .int .i64 0, .int .i64 0, .int .i64 0] 41) = W at *
  refine (nextR_c 20 g A n c 0 B ys _ (by omega) (by omega) s0 u0 hB hn (by omega)).mono ?_
  rintro e w1 ⟨v0, rfl, hv0, s1, r1⟩
  have b1 := b0.rg r1 (.inr (by omega))
  have u1 := u0.rg r1 hB (Nat.le_of_lt s0.lt)
  have t1 := r0.trans r1
  clear b0 u0 r0 r1 s0
  go_wp2_with fail
  refine (nextR_c 8 g A n c (0 + 3) B ys _ (by omega) (by omega) s1 u1 hB hn (by omega)).mono ?_
  rintro e w2 ⟨v1, rfl, hv1, s2, r2⟩
  have b2 := b1.rg r2 (.inr (by omega))
  have u2 := u1.rg r2 hB (Nat.le_of_lt s1.lt)
  have t2 := t1.trans r2
  clear b1 u1 t1 r2 s1
  go_wp2_with fail
  refine (nextR_c 900 g A n c (0 + 3 + 3) B ys _ (by omega) (by omega) s2 u2 hB hn (by omega)).mono ?_
  rintro e w3 ⟨v2, rfl, hv2, s3, r3⟩
  have b3 := b2.rg r3 (.inr (by omega))
  have u3 := u2.rg r3 hB (Nat.le_of_lt s2.lt)
  have t3 := t2.trans r3
  clear b2 u2 t2 r3 s2
  go_wp2_with fail
  refine (nextR_c 200 g A n c (0 + 3 + 3 + 3) B ys _ (by omega) (by omega) s3 u3 hB hn (by omega)).mono ?_
  rintro e w4 ⟨v3, rfl, hv3, s4, r4⟩
  have b4 := b3.rg r4 (.inr (by omega))
  have t4 := t3.trans r4
  clear b3 u3 t3 r4 s3
  obtain ⟨c0, c1, c2, c3⟩ := b4.d4
  have f0 := b4.frozen 0
  have f1 := b4.frozen 1
  have f2 := b4.frozen 2
  have f3 := b4.frozen 3
  go_wp2
  have q := put4_box b4 (.int .i64 (1 + (v0 : Int))) (.int .i64 v1) (.int .i64 v2) (.int .i64 v3)
  have hnf := (((t4.setNew8 (p := ⟨w.heap.size, 0, none⟩) (Nat.le_refl _) (.int .i64 (1 + (v0 : Int)))).setNew8 (p := ⟨w.heap.size, 1, none⟩) (Nat.le_refl _) (.int .i64 v1)).setNew8 (p := ⟨w.heap.size, 2, none⟩) (Nat.le_refl _) (.int .i64 v2)).setNew8 (p := ⟨w.heap.size, 3, none⟩) (Nat.le_refl _) (.int .i64 v3)
  change Rg _ _ _ (put4 w4 w.heap.size (.int .i64 (1 + (v0 : Int))) (.int .i64 v1) (.int .i64 v2) (.int .i64 v3)) at hnf
  change bodyPost _ _ _ _ _ (put4 w4 w.heap.size (.int .i64 (1 + (v0 : Int))) (.int .i64 v1) (.int .i64 v2) (.int .i64 v3))
  generalize put4 w4 w.heap.size (.int .i64 (1 + (v0 : Int))) (.int .i64 v1) (.int .i64 v2) (.int .i64 v3) = Wf at *
  obtain ⟨g0, g1, g2, g3⟩ := q.d4
  refine bodyPost_ret (v := .agg #[.int .i64 (1 + (v0 : Int)), .int .i64 v1, .int .i64 v2, .int .i64 v3]) (by simp [results, Tryd.results44, go_sem, g0, g1, g2, g3]) rfl ⟨(1 + v0, v1, v2, v3), ?_, ?_, hnf⟩
  · rw [show (1 : Int) + (v0 : Int) = ((1 + v0 : Nat) : Int) by omega]; rfl
  · show frameB ((1 + v0 : Nat) : Int) v1 v2 v3 = true
    unfold frameB inB; simp; omega
set_option maxRecDepth 100000 in
set_option maxHeartbeats 1000000 in
theorem frameDrawn_c (A : Option Addr) (n c : Nat) (ys : List Nat) (w : World) (h : U8s w w.heap.size A n ys) (hn : n ≤ 1048576) :
    Calls Tryd.prog 14 #[.slice A n c] w fun e w' => ∃ q : F4, e = .returned (vF q) ∧ frameB q.1 q.2.1 q.2.2.1 q.2.2.2 = true ∧ Nx w w' := by
  go_enter Tryd.func14, Tryd.ntmps14
  go_wp2_with fail
  have b0 := Box.new w 41 #[.int .i64 0, .int .i64 0, .int .i64 0, .int .i64 0]
  have hx0 := (Nx.refl w).alloc (.cells #[.int .i64 0, .int .i64 0, .int .i64 0, .int .i64 0] 41)
  have u0 := h.below hx0 (Nat.le_refl _)
  generalize w.alloc (.cells #[.int .i64 0, .int .i64 0, .int .i64 0, .int .i64 0] 41) = W at *
  have hz := b0.lt
  refine (l00Source_c A n c _ hn).mono ?_
  rintro e w1 ⟨rfl, s1, hnx1⟩
  have u1 := u0.below hnx1 (by omega)
  go_wp2_with fail
  refine (frame_c W.heap.size A n c w.heap.size ys _ ⟨0, n % 1000, by omega, by omega, s1⟩ u1 (by omega) hn).mono ?_
  rintro e w2 ⟨⟨q0, q1, q2, q3⟩, rfl, hf, r2⟩
  have HF := Lib.hid hf
  clear hf
  have b2 := (b0.nx hnx1).rg r2 (.inl hz)
  have hx2 := Rg.nx_of (hx0.trans hnx1) r2 (by omega)
  clear u0 u1 b0 hx0 hnx1 r2 s1
  rw [show vF (q0, q1, q2, q3) = .agg #[.int .i64 q0, .int .i64 q1, .int .i64 q2, .int .i64 q3] from rfl]
  obtain ⟨c0, c1, c2, c3⟩ := b2.d4
  have f0 := b2.frozen 0
  have f1 := b2.frozen 1
  have f2 := b2.frozen 2
  have f3 := b2.frozen 3
  go_wp2
  have q := put4_box b2 (.int .i64 q0) (.int .i64 q1) (.int .i64 q2) (.int .i64 q3)
  have hnf := put4_nx hx2 (Nat.le_refl w.heap.size) (.int .i64 q0) (.int .i64 q1) (.int .i64 q2) (.int .i64 q3)
  change bodyPost _ _ _ _ _ (put4 w2 w.heap.size (.int .i64 q0) (.int .i64 q1) (.int .i64 q2) (.int .i64 q3))
  generalize put4 w2 w.heap.size (.int .i64 q0) (.int .i64 q1) (.int .i64 q2) (.int .i64 q3) = Wf at *
  obtain ⟨g0, g1, g2, g3⟩ := q.d4
  exact bodyPost_ret (v := .agg #[.int .i64 q0, .int .i64 q1, .int .i64 q2, .int .i64 q3]) (by simp [results, Tryd.results14, go_sem, g0, g1, g2, g3]) rfl ⟨(q0, q1, q2, q3), rfl, HF.out, hnf⟩
end Go.Proofs.YtehahodomfbpjaaDoor
/- A text with its sum is read back: the numbers of the text of numbers are those numbers. Conditions: none. -/
namespace Go.Proofs.YtehahodomfbpjaaDoor
set_option linter.unusedVariables false
set_option maxRecDepth 100000
open Go.RowKit

theorem dig_ch (n : Nat) : (UInt8.ofNat (48 + n % 10)).toNat = 48 + n % 10 := by
  have : n % 10 < 10 := Nat.mod_lt _ (by decide)
  simp only [UInt8.toNat_ofNat']
  omega
theorem digL_pad : ∀ k n, digL (pad k n) = true
  | 0, n => rfl
  | k + 1, n => by
    show digL (pad k (n / 10) ++ [UInt8.ofNat (48 + n % 10)]) = true
    have : n % 10 < 10 := Nat.mod_lt _ (by decide)
    rw [digL_snoc, digL_pad k (n / 10)]
    unfold digC digI
    rw [dig_ch]
    simp
    omega
theorem valL_pad : ∀ k n, valL (pad k n) = n % 10 ^ k
  | 0, n => by show 0 = n % 1; omega
  | k + 1, n => by
    show valL (pad k (n / 10) ++ [UInt8.ofNat (48 + n % 10)]) = _
    rw [valL_snoc, valL_pad k (n / 10), dig_ch, show 10 ^ (k + 1) = 10 * 10 ^ k by rw [Nat.pow_succ]; omega, Nat.mod_mul]
    omega
theorem pad_inj {k a b : Nat} (ha : a < 10 ^ k) (hb : b < 10 ^ k) (h : pad k a = pad k b) : a = b := by
  have := congrArg valL h
  rw [valL_pad, valL_pad, Nat.mod_eq_of_lt ha, Nat.mod_eq_of_lt hb] at this
  exact this
theorem digL_app (a b : List UInt8) : digL (a ++ b) = (digL a && digL b) := by unfold digL; rw [List.all_append]
theorem digL_padAll : ∀ ns, digL (padAll ns) = true
  | [] => rfl
  | n :: ns => by
    show digL (pad 6 n ++ padAll ns) = true
    rw [digL_app, digL_pad, digL_padAll ns]; rfl
theorem chunk_padAll : ∀ (ns : List Nat) (j : Nat), j < ns.length → chunk (padAll ns) j = pad 6 (ns.getD j 0)
  | [], j, h => by simp at h
  | n :: ns, 0, h => by
    show ((pad 6 n ++ padAll ns).drop (6 * 0)).take 6 = pad 6 n
    simp only [Nat.mul_zero, List.drop_zero]
    exact List.take_left' (pad_len 6 n)
  | n :: ns, j + 1, h => by
    show ((pad 6 n ++ padAll ns).drop (6 * (j + 1))).take 6 = pad 6 (ns.getD j 0)
    rw [← chunk_padAll ns j (by simpa using h)]
    unfold chunk
    refine congrArg (List.take 6) ?_
    rw [show 6 * (j + 1) = (pad 6 n).length + 6 * j by rw [pad_len]; omega, List.drop_append, List.drop_eq_nil_of_le (by omega), Nat.add_sub_cancel_left, List.nil_append]
theorem numsO_padAll (ns : List Nat) (h : All6 ns) : numsO (padAll ns) = some ns := by
  have hl := padAll_len ns
  rw [numsO_yes (by rw [hl]; omega) (digL_padAll ns), hl, Nat.mul_div_cancel _ (by decide)]
  congr 1
  unfold numsOf
  apply List.ext_getElem (by simp)
  intro j h1 h2
  have h3 := h j h2
  rw [List.getElem_map, List.getElem_range, chunk_padAll ns j h2, valL_pad, Nat.mod_eq_of_lt (by omega)]
  rw [List.getD_eq_getElem?_getD, List.getElem?_eq_getElem h2]; rfl
theorem sumD_len (s : ByteArray) : (sumD s).length = 3 := pad_len _ _
theorem sealS_list (s : ByteArray) : (sealS s).data.toList = s.data.toList ++ sumD s := by unfold sealS; rw [ba_app]
theorem sealS_size (s : ByteArray) : (sealS s).size = s.size + 3 := by rw [ba_size, sealS_list, List.length_append, sumD_len, ← ba_size]
theorem bodyOf_list (t : ByteArray) : (bodyOf t).data.toList = t.data.toList.take (t.size - 3) := by
  unfold bodyOf
  rw [ByteArray.data_extract]
  simp
theorem ba_ext {a b : ByteArray} (h : a.data.toList = b.data.toList) : a = b := by rw [ba_eq h]
theorem bodyOf_seal (s : ByteArray) : bodyOf (sealS s) = s := by
  apply ba_ext
  rw [bodyOf_list, sealS_size, sealS_list, show s.size + 3 - 3 = s.size by omega]
  exact List.take_left' (ba_size s).symm
theorem opensB_seal (s : ByteArray) : opensB (sealS s) = true := by
  rw [opensB_of (by rw [sealS_size]; omega)]
  unfold sealB
  rw [bodyOf_seal]
  exact beq_self_eq_true _
/-- The text of numbers is read back. -/
theorem rdN_seal (ns : List Nat) (h : All6 ns) : rdN (sealS (numsS ns)) = some ns := by
  rw [rdN_yes (opensB_seal _), bodyOf_seal]
  exact numsO_padAll ns h
end Go.Proofs.YtehahodomfbpjaaDoor
/- Contracts of the laws' functions that FnCodec calls: at, sameSeg. Conditions: what is read can be read, and has at most 1048576 elements. -/
namespace Go.Proofs.YtehahodomfbpjaaDoor
set_option linter.unusedVariables false
set_option maxRecDepth 100000
open Go.RowKit

set_option maxRecDepth 100000 in
set_option maxHeartbeats 1000000 in
theorem sameSeg_c (f t m : Int) (A A2 : Option Addr) (c c2 B : Nat) (cs : List Chg) (w : World) (h : Chs w B A cs) (h2 : Chs w B A2 cs) (hB : B ≤ w.heap.size) (hn : cs.length ≤ 1048576) :
    Calls Tryd.prog 21 #[.agg #[.int .i64 f, .int .i64 t, .int .i64 m, .slice A cs.length c], .agg #[.int .i64 f, .int .i64 t, .int .i64 m, .slice A2 cs.length c2]] w fun e w' => e = .returned (.bool true) ∧ Nx w w' := by
  have b0 := (Box.new w 38 #[.int .i64 f, .int .i64 t, .int .i64 m, .slice A cs.length c]).alloc (.cells #[.int .i64 f, .int .i64 t, .int .i64 m, .slice A2 cs.length c2] 38)
  have b2 := Box.new (w.alloc (.cells #[.int .i64 f, .int .i64 t, .int .i64 m, .slice A cs.length c] 38)) 38 #[.int .i64 f, .int .i64 t, .int .i64 m, .slice A2 cs.length c2]
  simp only [World.size_alloc] at b2
  have hx0 := ((Nx.refl w).alloc (.cells #[.int .i64 f, .int .i64 t, .int .i64 m, .slice A cs.length c] 38)).alloc (.cells #[.int .i64 f, .int .i64 t, .int .i64 m, .slice A2 cs.length c2] 38)
  go_enter Tryd.func21, Tryd.ntmps21
  go_wp2
  generalize (w.alloc (.cells #[.int .i64 f, .int .i64 t, .int .i64 m, .slice A cs.length c] 38)).alloc (.cells #[.int .i64 f, .int .i64 t, .int .i64 m, .slice A2 cs.length c2] 38) = W at *
  have k1 := h.below hx0 hB
  have k2 := h2.below hx0 hB
  have hB' : B ≤ W.heap.size := Nat.le_trans hB hx0.size
  clear h h2
  go_loopw [5] (fun i wr => ∃ k : Nat, k ≤ cs.length ∧ i = .int .i64 k ∧ Nx W wr) (fun i _ => cs.length - (intOf i).toNat)
  case atStart => exact ⟨0, Nat.zero_le _, rfl, Nx.refl _⟩
  case round =>
    obtain ⟨k, hk, rfl, hnx⟩ := hrel
    obtain ⟨_, _, _, c3⟩ := (b0.nx hnx).d4
    obtain ⟨_, _, _, d3⟩ := (b2.nx hnx).d4
    by_cases hlt : k < cs.length
    · obtain ⟨b, off, rfl, hb, p0, p1, p2⟩ := (k1.below hnx hB').at_ hlt
      obtain ⟨b2, off2, rfl, hb2, q0, q1, q2⟩ := (k2.below hnx hB').at_ hlt
      generalize cs.getD k chZ = s at p0 p1 p2 q0 q1 q2
      obtain ⟨x, y, z⟩ := s
      go_wp2_with fail
      go_still_tail 10, (by kernel_rfl)
      change wpList _ _ _ _ _ wr.drew
      have hnx1 : Nx W wr.drew := Below.drew hnx
      generalize wr.drew = wd at *
      go_wp2
      go_roundw
      case rel => exact ⟨k + 1, by omega, by go_num, hnx1⟩
      case measure => simp [intOf]; omega
    · go_wp2
      go_ret
      exact ⟨rfl, hx0.trans hnx⟩
/-- at: some number below n. -/
def RetAt (n : Nat) (w : World) (e : Ending) (w' : World) : Prop := ∃ v : Nat, e = .returned (.int .i64 (v : Int)) ∧ v < n ∧ Nx w w'
set_option maxRecDepth 100000 in
set_option maxHeartbeats 1000000 in
theorem at_c (A : Option Addr) (n c i m B : Nat) (ys : List Nat) (w : World) (h : U8s w B A n ys) (hB : B ≤ w.heap.size) (hn : n ≤ 1048576) (hi : i ≤ 1000) (hm : 2 ≤ m) (hm2 : m ≤ 100000) :
    Calls Tryd.prog 24 #[.slice A n c, .int .i64 i, .int .i64 m] w (RetAt m w) := by
  by_cases h0 : n = 0
  · subst h0
    go_enter Tryd.func24, Tryd.ntmps24
    go_wp2
    go_ret
    exact ⟨i * 7 % m, ret_int (by rw [show (i : Int) * 7 = ((i * 7 : Nat) : Int) by omega, ← Int.natCast_emod]), Nat.mod_lt _ (by omega), Nx.refl _⟩
  · have hj : i % n < n := Nat.mod_lt _ (by omega)
    have hj2 : (i + 1) % n < n := Nat.mod_lt _ (by omega)
    have e1 : (i : Int).tmod (n : Int) = ((i % n : Nat) : Int) := by rw [Int.tmod_eq_emod_of_nonneg (by omega), ← Int.natCast_emod]
    have e2 : ((i : Int) + 1).tmod (n : Int) = (((i + 1) % n : Nat) : Int) := by rw [show (i : Int) + 1 = ((i + 1 : Nat) : Int) by omega, Int.tmod_eq_emod_of_nonneg (by omega), ← Int.natCast_emod]
    have e3 : (i : Int).tdiv (n : Int) = ((i / n : Nat) : Int) := by rw [Int.tdiv_eq_ediv_of_nonneg (by omega), ← Int.natCast_ediv]
    have hd : i / n ≤ 1000 := Nat.le_trans (Nat.div_le_self _ _) hi
    obtain ⟨b, off, rfl, hb, p0⟩ := h.at_ hj
    obtain ⟨b2, off2, hE, hb2, q0⟩ := h.at_ hj2
    injection hE with hE
    injection hE with hE1 hE2
    subst hE1 hE2
    have hy := h.2.1 (i % n)
    have hy2 := h.2.1 ((i + 1) % n)
    generalize ys.getD (i % n) 0 = y at *
    generalize ys.getD ((i + 1) % n) 0 = y2 at *
    generalize i % n = j at *
    generalize (i + 1) % n = j2 at *
    generalize i / n = d at *
    have e4 : ((y : Int) * 31 + (y2 : Int) + (d : Int)).tmod (m : Int) = (((y * 31 + y2 + d) % m : Nat) : Int) := by rw [Int.tmod_eq_emod_of_nonneg (by omega), show (y : Int) * 31 + (y2 : Int) + (d : Int) = ((y * 31 + y2 + d : Nat) : Int) by omega, ← Int.natCast_emod]
    have e5 : ((y : Int) * 31 + (y2 : Int) + (d : Int)) % (m : Int) = (((y * 31 + y2 + d) % m : Nat) : Int) := by rw [show (y : Int) * 31 + (y2 : Int) + (d : Int) = ((y * 31 + y2 + d : Nat) : Int) by omega, ← Int.natCast_emod]
    obtain ⟨z, Hz⟩ : ∃ z, Hid ((y * 31 + y2 + d) % m = z) := ⟨_, rfl⟩
    have hz : z < m := by rw [← Hz.out]; exact Nat.mod_lt _ (by omega)
    rw [Hz.out] at e4 e5
    have k1 : IntKind.i64.wrap (j : Int) = j := IntWalk.i64_in _ (by omega)
    have k2 : IntKind.i64.wrap (j2 : Int) = j2 := IntWalk.i64_in _ (by omega)
    have k3 : IntKind.i64.wrap (d : Int) = d := IntWalk.i64_in _ (by omega)
    have k4 : IntKind.i64.wrap (z : Int) = z := IntWalk.i64_in _ (by omega)
    have k5 : IntKind.i64.wrap (y : Int) = y := IntWalk.i64_in _ (by omega)
    have k6 : IntKind.i64.wrap (y2 : Int) = y2 := IntWalk.i64_in _ (by omega)
    have k7 : IntKind.i64.wrap ((y : Int) * 31) = (y : Int) * 31 := IntWalk.i64_in _ (by omega)
    have k8 : IntKind.i64.wrap ((y : Int) * 31 + (y2 : Int)) = (y : Int) * 31 + (y2 : Int) := IntWalk.i64_in _ (by omega)
    have k9 : IntKind.i64.wrap ((y : Int) * 31 + (y2 : Int) + (d : Int)) = (y : Int) * 31 + (y2 : Int) + (d : Int) := IntWalk.i64_in _ (by omega)
    have k0 : IntKind.i64.wrap ((i : Int) + 1) = (i : Int) + 1 := IntWalk.i64_in _ (by omega)
    have n0 : ((n : Int) == 0) = false := by rw [beq_eq_false_iff_ne]; omega
    have m0 : ((m : Int) == 0) = false := by rw [beq_eq_false_iff_ne]; omega
    have n1 : ¬ (n : Int) = 0 := by omega
    have m1 : ¬ (m : Int) = 0 := by omega
    have m2 : ¬ m = 0 := by omega
    have l1 : (j : Int) < (n : Int) := by omega
    have l2 : (j2 : Int) < (n : Int) := by omega
    go_enter Tryd.func24, Tryd.ntmps24
    go_wp2
    refine wp_region_lex [false, false, false, false, false, false, false, false, false, false, false, false, false, false, false, false, false, false, false, false, false, false, false, false, false, false, false] (fun w' => w'.cell? ⟨b, off + j, none⟩ = some (.int .u8 (y : Int)) ∧ w'.cell? ⟨b, off + j2, none⟩ = some (.int .u8 (y2 : Int))) (by kernel_rfl) (by kernel_rfl) rfl (by kernel_rfl) (fun _ _ d _ _ h => by cases d <;> exact h) (by exact ⟨p0, q0⟩) ?_
    repeat (first | (refine HL.take (v := ?_) (by rfl) ?_ ?_; rotate_left; (· (intro w hSw; (try dsimp only at hSw); go_simp; try with_reducible rfl)); (try simp only [Act.put, List.setIfInBounds_toArray, List.set_cons_zero, List.set_cons_succ])) | (refine HL.skip (by rfl) ?_; (try simp only [Act.put, List.setIfInBounds_toArray, List.set_cons_zero, List.set_cons_succ])))
    refine HL.done ?_
    go_wp2
    go_ret
    exact ⟨z, rfl, hz, Below.drew (Nx.refl w)⟩
end Go.Proofs.YtehahodomfbpjaaDoor
