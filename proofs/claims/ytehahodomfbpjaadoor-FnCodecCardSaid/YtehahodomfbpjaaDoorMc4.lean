/-
  Texts of the proof, put together in their order: Lrf, Seg, Sgs.
  Conditions: those of each.
-/
import Derived.Test.YtehahodomfbpjaaDoorMc3
import Derived.Deep.RegionHeld3
import Derived.IntWalk
/- Contracts of the program's ReadFrame, and the walk of the law FnExactReadFrame. Conditions: the package's errors are known. -/
namespace Go.Proofs.YtehahodomfbpjaaDoor
set_option linter.unusedVariables false
set_option maxRecDepth 100000
open Go.RowKit

set_option maxHeartbeats 1000000 in
theorem textCode_nil (w : World) : Calls Tryd.prog 50 #[.nilIface] w fun e w' => e = .returned (.int .i64 0) ∧ w = w' := by
  go_enter Tryd.func50, Tryd.ntmps50
  go_wp2
  go_ret
  exact ⟨rfl, rfl⟩
set_option maxHeartbeats 1000000 in
theorem textCode_form (w : World) (a0 a1 : Addr) (hE : Er w a0 a1) : Calls Tryd.prog 50 #[.iface 152 (.pointer (some a0))] w fun e w' => e = .returned (.int .i64 3) ∧ w = w' := by
  obtain ⟨_, c1, hne, ⟨ca, ta, h0⟩, cb, tb, h1⟩ := hE
  have HE := Lib.hid (And.intro hne (And.intro h0 h1))
  clear hne h0 h1
  go_enter Tryd.func50, Tryd.ntmps50
  go_wp2_with fail
  refine (is_other a0 a1 ca cb ta tb _ HE.out.1 HE.out.2.1 HE.out.2.2).mono ?_
  rintro e w' ⟨rfl, rfl⟩
  go_wp2
  go_ret
  exact ⟨rfl, rfl⟩
set_option maxHeartbeats 1000000 in
theorem textCode_long (w : World) (a0 a1 : Addr) (hE : Er w a0 a1) : Calls Tryd.prog 50 #[.iface 152 (.pointer (some a1))] w fun e w' => e = .returned (.int .i64 2) ∧ w = w' := by
  obtain ⟨_, c1, _⟩ := hE
  go_enter Tryd.func50, Tryd.ntmps50
  go_wp2_with fail
  refine (is_same a1 _).mono ?_
  rintro e w' ⟨rfl, rfl⟩
  go_wp2
  go_ret
  exact ⟨rfl, rfl⟩
set_option maxRecDepth 100000 in
set_option maxHeartbeats 4000000 in
theorem frameOfTextLong_c (t : ByteArray) (w : World) (a0 a1 : Addr) (ht : 65536 < t.size) (hE : Er w a0 a1) :
    Calls Tryd.prog 53 #[.string t] w fun e w' => e = .returned (.tuple #[.agg #[.int .i64 0, .int .i64 0, .int .i64 0, .int .i64 0], .iface 152 (.pointer (some a1))]) ∧ Nx w w' := by
  have b0 := Box.new w 41 #[.int .i64 0, .int .i64 0, .int .i64 0, .int .i64 0]
  have hx0 := (Nx.refl w).alloc (.cells #[.int .i64 0, .int .i64 0, .int .i64 0, .int .i64 0] 41)
  go_enter Tryd.func53, Tryd.ntmps53
  go_wp2_with fail
  generalize w.alloc (.cells #[.int .i64 0, .int .i64 0, .int .i64 0, .int .i64 0] 41) = W at *
  refine (sealedNumbersLong_c t _ a0 a1 ht (hE.nx hx0)).mono ?_
  rintro e w1 ⟨rfl, hnx1⟩
  have b1 := b0.nx hnx1
  have hx1 := hx0.trans hnx1
  clear b0 hx0 hnx1
  obtain ⟨c0, c1, c2, c3⟩ := b1.d4
  have f0 := b1.frozen 0
  have f1 := b1.frozen 1
  have f2 := b1.frozen 2
  have f3 := b1.frozen 3
  go_wp2
  have q := (put4_box b1 (.int .i64 0) (.int .i64 0) (.int .i64 0) (.int .i64 0))
  have hnf := (put4_nx hx1 (Nat.le_refl w.heap.size) (.int .i64 0) (.int .i64 0) (.int .i64 0) (.int .i64 0))
  change bodyPost _ _ _ _ _ (put4 w1 w.heap.size (.int .i64 0) (.int .i64 0) (.int .i64 0) (.int .i64 0))
  change Box (put4 w1 w.heap.size (.int .i64 0) (.int .i64 0) (.int .i64 0) (.int .i64 0)) _ _ _ at q
  generalize put4 w1 w.heap.size (.int .i64 0) (.int .i64 0) (.int .i64 0) (.int .i64 0) = Wf at *
  obtain ⟨g0, g1, g2, g3⟩ := q.d4
  exact bodyPost_ret (v := .tuple #[.agg #[.int .i64 0, .int .i64 0, .int .i64 0, .int .i64 0], .iface 152 (.pointer (some a1))]) (by simp [results, Tryd.results53, go_sem, g0, g1, g2, g3]) rfl ⟨rfl, hnf⟩

/-- What frameOfText answers, in one form: a frame, an error, and the code that it has. -/
theorem frameText_any (t : ByteArray) (w : World) (a0 a1 : Addr) (hE : Er w a0 a1) :
    ∃ (q : F4) (ev : Value) (cd : Int), Ending.returned (.tuple #[vF q, .int .i64 cd]) = .returned (.tuple #[vF (frA t), .int .i64 (frC t)]) ∧
      (∀ w', Er w' a0 a1 → Calls Tryd.prog 50 #[ev] w' fun e w'' => e = .returned (.int .i64 cd) ∧ w' = w'') ∧
      ∀ w', Er w' a0 a1 → Calls Tryd.prog 53 #[.string t] w' fun e w'' => e = .returned (.tuple #[vF q, ev]) ∧ Nx w' w'' := by
  by_cases hl : t.size ≤ 65536
  case neg =>
    exact ⟨zF, _, 2, frA_long hl, fun w' h => textCode_long w' a0 a1 h, fun w' h => frameOfTextLong_c t w' a0 a1 (by omega) h⟩
  cases hr : rdF t with
  | none => exact ⟨zF, _, 3, frA_none hl hr, fun w' h => textCode_form w' a0 a1 h, fun w' h => (frameOfText_c t w' a0 a1 hl h).mono fun e w'' ⟨he, hn⟩ => ⟨by rw [he, hr]; rfl, hn⟩⟩
  | some q => exact ⟨q, _, 0, frA_some hl hr, fun w' h => textCode_nil w', fun w' h => (frameOfText_c t w' a0 a1 hl h).mono fun e w'' ⟨he, hn⟩ => ⟨by rw [he, hr]; rfl, hn⟩⟩
set_option maxRecDepth 100000 in
set_option maxHeartbeats 4000000 in
theorem implReadFrame_c (t : ByteArray) (w : World) (a0 a1 : Addr) (hE : Er w a0 a1) : Calls Tryd.prog 20 #[.string t] w (RetRF w t) := by
  obtain ⟨q, ev, cd, hA, hTC, hFT⟩ := frameText_any t w a0 a1 hE
  have HA := Lib.hid hA
  have HTC := Lib.hid hTC
  have HFT := Lib.hid hFT
  clear hA hTC hFT
  have b0 := Box.new w 41 #[.int .i64 0, .int .i64 0, .int .i64 0, .int .i64 0]
  have hx0 := (Nx.refl w).alloc (.cells #[.int .i64 0, .int .i64 0, .int .i64 0, .int .i64 0] 41)
  obtain ⟨q0, q1, q2, q3⟩ := q
  go_enter Tryd.func20, Tryd.ntmps20
  go_wp2_with fail
  generalize w.alloc (.cells #[.int .i64 0, .int .i64 0, .int .i64 0, .int .i64 0] 41) = W at *
  refine (HFT.out _ (hE.nx hx0)).mono ?_
  rintro e w1 ⟨rfl, hnx1⟩
  rw [show vF (q0, q1, q2, q3) = .agg #[.int .i64 q0, .int .i64 q1, .int .i64 q2, .int .i64 q3] from rfl]
  go_wp2_with fail
  have b2 := (b0.nx hnx1).alloc (.cells #[.int .i64 q0, .int .i64 q1, .int .i64 q2, .int .i64 q3] 41)
  have bx := Box.new w1 41 #[.int .i64 q0, .int .i64 q1, .int .i64 q2, .int .i64 q3]
  have hgx : w1.heap.size ≠ w.heap.size := by have := (b0.nx hnx1).lt; omega
  have hx2 := (hx0.trans hnx1).alloc (.cells #[.int .i64 q0, .int .i64 q1, .int .i64 q2, .int .i64 q3] 41)
  have hE2 := hE.nx hx2
  generalize w1.alloc (.cells #[.int .i64 q0, .int .i64 q1, .int .i64 q2, .int .i64 q3] 41) = w2 at *
  obtain ⟨c0, c1, c2, c3⟩ := b2.d4
  have f0 := b2.frozen 0
  have f1 := b2.frozen 1
  have f2 := b2.frozen 2
  have f3 := b2.frozen 3
  refine wp_region_lex [false, false, true, true, false] (fun w' => w'.cell? ⟨w1.heap.size, 0, none⟩ = some (.int .i64 q0) ∧ w'.cell? ⟨w1.heap.size, 1, none⟩ = some (.int .i64 q1) ∧ w'.cell? ⟨w1.heap.size, 2, none⟩ = some (.int .i64 q2) ∧ w'.cell? ⟨w1.heap.size, 3, none⟩ = some (.int .i64 q3)) (by kernel_rfl) (by kernel_rfl) rfl (by kernel_rfl) (fun _ _ d _ _ h => by cases d <;> exact h) (by exact bx.d4) ?_
  repeat (first | (refine HL.take (v := ?_) (by rfl) ?_ ?_; rotate_left; (· (intro w hSw; (try dsimp only at hSw); go_simp; try with_reducible rfl)); (try simp only [Act.put, List.setIfInBounds_toArray, List.set_cons_zero, List.set_cons_succ])) | (refine HL.skip (by rfl) ?_; (try simp only [Act.put, List.setIfInBounds_toArray, List.set_cons_zero, List.set_cons_succ])))
  refine HL.call (by rfl) (fun K hK => ?_)
  go_simp
  refine (HTC.out _ (hE2.nx (Nx.refl _).drew)).mono ?_; rintro e w' ⟨rfl, rfl⟩
  go_wp2_with fail
  refine hK.out _ _ (by exact bx.d4) ?_
  clear hK K
  try simp only [Act.put, List.setIfInBounds_toArray, List.set_cons_zero, List.set_cons_succ]
  refine HL.call (by rfl) (fun K hK => ?_)
  go_simp
  refine hK.out _ _ (by exact (bx.far4 hgx (.int .i64 q0) (.int .i64 q1) (.int .i64 q2) (.int .i64 q3)).d4) ?_
  clear hK K
  try simp only [Act.put, List.setIfInBounds_toArray, List.set_cons_zero, List.set_cons_succ]
  repeat (first | (refine HL.take (v := ?_) (by rfl) ?_ ?_; rotate_left; (· (intro w hSw; (try dsimp only at hSw); go_simp; try with_reducible rfl)); (try simp only [Act.put, List.setIfInBounds_toArray, List.set_cons_zero, List.set_cons_succ])) | (refine HL.skip (by rfl) ?_; (try simp only [Act.put, List.setIfInBounds_toArray, List.set_cons_zero, List.set_cons_succ])))
  refine HL.done ?_
  clear c0 c1 c2 c3 f0 f1 f2 f3
  go_wp2
  have q := (put4_box b2 (.int .i64 q0) (.int .i64 q1) (.int .i64 q2) (.int .i64 q3))
  have hnf := (put4_nx hx2 (Nat.le_refl w.heap.size) (.int .i64 q0) (.int .i64 q1) (.int .i64 q2) (.int .i64 q3)).drew
  change bodyPost _ _ _ _ _ (World.drew (put4 w2 w.heap.size (.int .i64 q0) (.int .i64 q1) (.int .i64 q2) (.int .i64 q3)))
  change Box (World.drew (put4 w2 w.heap.size (.int .i64 q0) (.int .i64 q1) (.int .i64 q2) (.int .i64 q3))) _ _ _ at q
  generalize World.drew (put4 w2 w.heap.size (.int .i64 q0) (.int .i64 q1) (.int .i64 q2) (.int .i64 q3)) = Wf at *
  obtain ⟨g0, g1, g2, g3⟩ := q.d4
  exact bodyPost_ret (v := .tuple #[.agg #[.int .i64 q0, .int .i64 q1, .int .i64 q2, .int .i64 q3], .int .i64 cd]) (by simp [results, Tryd.results20, go_sem, g0, g1, g2, g3]) rfl ⟨HA.out, hnf⟩

end Go.Proofs.YtehahodomfbpjaaDoor
/- Words on segments: lists of changes in memory, what a segment is, and contracts of SegOK, as the model and as the program have it: both answer the same bool. Conditions: the segment can be read, and has at most 1048576 changes. -/
namespace Go.Proofs.YtehahodomfbpjaaDoor
set_option linter.unusedVariables false
set_option maxRecDepth 100000
open Go.RowKit

/-- A change: block, new value, old value. -/
abbrev Chg := Int × Int × Int
def chZ : Chg := (0, 0, 0)
def chAt (cs : List Chg) (i : Nat) : Value := .int .i64 (if i % 3 = 0 then (cs.getD (i / 3) chZ).1 else if i % 3 = 1 then (cs.getD (i / 3) chZ).2.1 else (cs.getD (i / 3) chZ).2.2)
theorem chAt0 (cs : List Chg) (k : Nat) : chAt cs (k * 3) = .int .i64 (cs.getD k chZ).1 := by
  unfold chAt; rw [if_pos (by omega), show k * 3 / 3 = k by omega]
theorem chAt1 (cs : List Chg) (k : Nat) : chAt cs (k * 3 + 1) = .int .i64 (cs.getD k chZ).2.1 := by
  unfold chAt; rw [if_neg (by omega), if_pos (by omega), show (k * 3 + 1) / 3 = k by omega]
theorem chAt2 (cs : List Chg) (k : Nat) : chAt cs (k * 3 + 2) = .int .i64 (cs.getD k chZ).2.2 := by
  unfold chAt; rw [if_neg (by omega), if_neg (by omega), show (k * 3 + 2) / 3 = k by omega]
/-- A list of changes that is read. -/
def Chs (w : World) (B : Nat) (A : Option Addr) (cs : List Chg) : Prop := Row w B A (cs.length * 3) (chAt cs)
theorem Chs.below {w w' : World} {B B' : Nat} {A : Option Addr} {cs : List Chg} (h : Chs w B A cs) (hb : Below B' w w') (hB : B ≤ B') : Chs w' B A cs := Row.below h hb hB
theorem Chs.at_ {w : World} {B k : Nat} {A : Option Addr} {cs : List Chg} (h : Chs w B A cs) (hk : k < cs.length) :
    ∃ b off, A = some ⟨b, off, none⟩ ∧ b < B ∧ w.cell? ⟨b, off + k * 3, none⟩ = some (.int .i64 (cs.getD k chZ).1) ∧ w.cell? ⟨b, off + k * 3 + 1, none⟩ = some (.int .i64 (cs.getD k chZ).2.1) ∧ w.cell? ⟨b, off + k * 3 + 2, none⟩ = some (.int .i64 (cs.getD k chZ).2.2) := by
  obtain ⟨b, off, e, hb, hc⟩ := h (by omega)
  have h0 := hc (k * 3) (by omega)
  have h1 := hc (k * 3 + 1) (by omega)
  have h2 := hc (k * 3 + 2) (by omega)
  rw [chAt0] at h0
  rw [chAt1] at h1
  rw [chAt2] at h2
  exact ⟨b, off, e, hb, h0, h1, h2⟩
def chB (c : Chg) : Bool := inB 0 7 c.1 && inB 0 999999 c.2.1 && inB 0 999999 c.2.2
def okCh (cs : List Chg) (k : Nat) : Bool := chB (cs.getD k chZ) && (k == 0 || decide ((cs.getD (k - 1) chZ).1 < (cs.getD k chZ).1))
def chsB (cs : List Chg) : Bool := (List.range cs.length).all (okCh cs)
/-- What a segment is. -/
def segB (f t m : Int) (cs : List Chg) : Bool := inB 0 999999 f && inB 0 999999 t && decide (f < t) && inB 0 999999 m && chsB cs
def OkTo (cs : List Chg) (k : Nat) : Prop := ∀ j, j < k → okCh cs j = true
theorem OkTo.zero (cs : List Chg) : OkTo cs 0 := fun j h => absurd h (by omega)
theorem OkTo.succ {cs : List Chg} {k : Nat} (h : OkTo cs k) (hk : okCh cs k = true) : OkTo cs (k + 1) := fun j hj => by
  rcases Nat.lt_or_ge j k with hlt | hge
  · exact h j hlt
  · obtain rfl : j = k := by omega
    exact hk
theorem OkTo.all {cs : List Chg} (h : OkTo cs cs.length) : chsB cs = true := List.all_eq_true.2 fun j hj => h j (by simpa using hj)
theorem chsB_to {cs : List Chg} (h : chsB cs = true) : OkTo cs cs.length := fun j hj => List.all_eq_true.1 h j (by simpa using hj)
theorem chsB_no {cs : List Chg} {k : Nat} (hk : k < cs.length) (h : okCh cs k = false) : chsB cs = false := by
  unfold chsB
  rw [List.all_eq_false]
  exact ⟨k, by simpa using hk, by rw [h]; simp⟩
theorem OkTo.rise {cs : List Chg} {k : Nat} (h : OkTo cs k) : ∀ j, j < k → (j : Int) ≤ (cs.getD j chZ).1 ∧ (cs.getD j chZ).1 ≤ 7 := by
  intro j
  induction j with
  | zero =>
    intro hj
    have h0 := h 0 hj
    unfold okCh chB at h0
    simp only [Bool.and_eq_true] at h0
    exact inB_yes h0.1.1.1
  | succ j ih =>
    intro hj
    have h0 := h (j + 1) hj
    obtain ⟨h1, _⟩ := ih (by omega)
    unfold okCh chB at h0
    simp only [Bool.and_eq_true, Bool.or_eq_true, decide_eq_true_eq, Nat.add_sub_cancel] at h0
    obtain ⟨_, h3⟩ := inB_yes h0.1.1.1
    rcases h0.2 with h2 | h2
    · simp at h2
    · exact ⟨by omega, h3⟩
theorem chsB_len {cs : List Chg} (h : chsB cs = true) : cs.length ≤ 8 := by
  rcases Nat.lt_or_ge 8 cs.length with hl | hl
  · have := (chsB_to h).rise 8 hl
    omega
  · exact hl
theorem segB_no {f t m : Int} {cs : List Chg} (h : inB 0 999998 f = false ∨ inB (f + 1) 999999 t = false ∨ inB 0 999999 f = false ∨ inB 0 999999 t = false ∨ decide (f < t) = false ∨ inB 0 999999 m = false ∨ chsB cs = false) : segB f t m cs = false := by
  rcases h with h | h | h | h | h | h | h
  · unfold segB inB at *
    simp only [Bool.and_eq_false_iff, decide_eq_false_iff_not] at *
    omega
  · unfold segB inB at *
    simp only [Bool.and_eq_false_iff, decide_eq_false_iff_not] at *
    omega
  · unfold segB; rw [h]; rfl
  · unfold segB; rw [h]; simp
  · unfold segB; rw [h]; simp
  · unfold segB; rw [h]; simp
  · unfold segB; rw [h]; simp
theorem segB_mk {f t m : Int} {cs : List Chg} (h1 : 0 ≤ f) (h2 : f < t) (h3 : t ≤ 999999) (h4 : inB 0 999999 m = true) (h5 : chsB cs = true) : segB f t m cs = true := by
  unfold segB
  rw [inB_mk h1 (by omega), inB_mk (by omega) h3, h4, h5, decide_eq_true h2]; rfl

set_option maxHeartbeats 1000000 in
theorem l02Change_c (a b c : Int) (w : World) : Calls Tryd.prog 73 #[.agg #[.int .i64 a, .int .i64 b, .int .i64 c]] w fun e w' => e = .returned (.bool (chB (a, b, c))) ∧ Nx w w' := by
  obtain ⟨x1, H1⟩ : ∃ r, Hid (inB 0 7 a = r) := ⟨_, rfl⟩
  obtain ⟨x2, H2⟩ : ∃ r, Hid (inB 0 999999 b = r) := ⟨_, rfl⟩
  obtain ⟨x3, H3⟩ : ∃ r, Hid (inB 0 999999 c = r) := ⟨_, rfl⟩
  have HR := Lib.hid (show (x1 && x2 && x3) = chB (a, b, c) by rw [← H1.out, ← H2.out, ← H3.out]; rfl)
  cases x1 <;> cases x2 <;> cases x3 <;> (
    go_enter Tryd.func73, Tryd.ntmps73
    go_wp2_with (go_at_call 54; refine (l01In_c _ _ _ _).mono ?_; rintro e w' ⟨rfl, rfl⟩; first | rw [H1.out] | rw [H2.out] | rw [H3.out])
    go_ret
    exact ⟨ret_bool HR.out, (Nx.refl _).alloc _⟩)
set_option maxHeartbeats 1000000 in
theorem changeRight_c (a b c : Int) (w : World) : Calls Tryd.prog 71 #[.agg #[.int .i64 a, .int .i64 b, .int .i64 c]] w fun e w' => e = .returned (.bool (chB (a, b, c))) ∧ Nx w w' := by
  obtain ⟨x1, H1⟩ : ∃ r, Hid (inB 0 7 a = r) := ⟨_, rfl⟩
  obtain ⟨x2, H2⟩ : ∃ r, Hid (inB 0 999999 b = r) := ⟨_, rfl⟩
  obtain ⟨x3, H3⟩ : ∃ r, Hid (inB 0 999999 c = r) := ⟨_, rfl⟩
  have HR := Lib.hid (show (x1 && x2 && x3) = chB (a, b, c) by rw [← H1.out, ← H2.out, ← H3.out]; rfl)
  cases x1 <;> cases x2 <;> cases x3 <;> (
    go_enter Tryd.func71, Tryd.ntmps71
    go_wp2_with (first
      | (go_at_call 77; refine (isBlock_c _ _).mono ?_; rintro e w' ⟨rfl, rfl⟩; rw [H1.out])
      | (go_at_call 78; refine (isValue_c _ _).mono ?_; rintro e w' ⟨rfl, rfl⟩; first | rw [H2.out] | rw [H3.out]))
    go_ret
    exact ⟨ret_bool HR.out, (Nx.refl _).alloc _⟩)
end Go.Proofs.YtehahodomfbpjaaDoor
/- Contract of SegOK, as the model has it. Conditions: the segment can be read, and has at most 1048576 changes. -/
namespace Go.Proofs.YtehahodomfbpjaaDoor
set_option linter.unusedVariables false
set_option maxRecDepth 100000
open Go.RowKit

set_option maxRecDepth 100000 in
set_option maxHeartbeats 4000000 in
theorem specSegOK_c (f t m : Int) (A : Option Addr) (c B : Nat) (cs : List Chg) (w : World) (h : Chs w B A cs) (hB : B ≤ w.heap.size) (hn : cs.length ≤ 1048576) :
    Calls Tryd.prog 47 #[.agg #[.int .i64 f, .int .i64 t, .int .i64 m, .slice A cs.length c]] w fun e w' => e = .returned (.bool (segB f t m cs)) ∧ Nx w w' := by
  cases x1 : inB 0 999998 f with
  | false =>
    have H1 := Lib.hid x1
    have HR := Lib.hid (segB_no (t := t) (m := m) (cs := cs) (.inl x1)).symm
    clear x1
    go_enter Tryd.func47, Tryd.ntmps47
    go_wp2_with (go_at_call 54; refine (l01In_c _ _ _ _).mono ?_; rintro e w' ⟨rfl, rfl⟩; first | rw [H1.out])
    go_ret
    exact ⟨ret_bool HR.out, (Nx.refl _).alloc _⟩
  | true =>
  have H1 := Lib.hid x1
  obtain ⟨hf0, hf1⟩ := inB_yes x1
  clear x1
  cases x2 : inB (f + 1) 999999 t with
  | false =>
    have H2 := Lib.hid x2
    have HR := Lib.hid (segB_no (f := f) (t := t) (m := m) (cs := cs) (.inr (.inl x2))).symm
    clear x2
    go_enter Tryd.func47, Tryd.ntmps47
    go_wp2_with (go_at_call 54; refine (l01In_c _ _ _ _).mono ?_; rintro e w' ⟨rfl, rfl⟩; first | rw [H1.out] | rw [H2.out])
    go_ret
    exact ⟨ret_bool HR.out, (Nx.refl _).alloc _⟩
  | true =>
  have H2 := Lib.hid x2
  obtain ⟨ht0, ht1⟩ := inB_yes x2
  clear x2
  cases x3 : inB 0 999999 m with
  | false =>
    have H3 := Lib.hid x3
    have HR := Lib.hid (segB_no (f := f) (t := t) (m := m) (cs := cs) (.inr (.inr (.inr (.inr (.inr (.inl x3))))))).symm
    clear x3
    go_enter Tryd.func47, Tryd.ntmps47
    go_wp2_with (go_at_call 54; refine (l01In_c _ _ _ _).mono ?_; rintro e w' ⟨rfl, rfl⟩; first | rw [H1.out] | rw [H2.out] | rw [H3.out])
    go_ret
    exact ⟨ret_bool HR.out, (Nx.refl _).alloc _⟩
  | true =>
  have H3 := Lib.hid x3
  clear x3
  by_cases hl : cs.length ≤ 8
  case neg =>
    have hl' : decide (8 < (cs.length : Int)) = true := by simp; omega
    have HR := Lib.hid (segB_no (f := f) (t := t) (m := m) (cs := cs) (.inr (.inr (.inr (.inr (.inr (.inr (by cases hx : chsB cs with
      | false => rfl
      | true => exact absurd (chsB_len hx) hl)))))))).symm
    go_enter Tryd.func47, Tryd.ntmps47
    go_wp2_with (go_at_call 54; refine (l01In_c _ _ _ _).mono ?_; rintro e w' ⟨rfl, rfl⟩; first | rw [H1.out] | rw [H2.out] | rw [H3.out])
    go_ret
    exact ⟨ret_bool HR.out, (Nx.refl _).alloc _⟩
  have hl' : decide (8 < (cs.length : Int)) = false := by simp; omega
  go_enter Tryd.func47, Tryd.ntmps47
  go_wp2_with (go_at_call 54; refine (l01In_c _ _ _ _).mono ?_; rintro e w' ⟨rfl, rfl⟩; first | rw [H1.out] | rw [H2.out] | rw [H3.out])
  have b0 := Box.new w 38 #[.int .i64 f, .int .i64 t, .int .i64 m, .slice A cs.length c]
  have hx0 := (Nx.refl w).alloc (.cells #[.int .i64 f, .int .i64 t, .int .i64 m, .slice A cs.length c] 38)
  generalize w.alloc (.cells #[.int .i64 f, .int .i64 t, .int .i64 m, .slice A cs.length c] 38) = W at *
  clear hl'
  go_loopw [3] (fun i wr => ∃ k : Nat, k ≤ cs.length ∧ i = .int .i64 k ∧ OkTo cs k ∧ Nx W wr) (fun i _ => cs.length - (intOf i).toNat)
  case atStart => exact ⟨0, Nat.zero_le _, rfl, OkTo.zero _, Nx.refl _⟩
  case round =>
    obtain ⟨k, hk, rfl, hto, hnx⟩ := hrel
    obtain ⟨_, _, _, c3⟩ := (b0.nx hnx).d4
    by_cases hlt : k < cs.length
    · obtain ⟨b, off, rfl, hb, k0, k1, k2⟩ := (h.below (hx0.trans hnx) hB).at_ hlt
      obtain ⟨⟨q0, q1, q2⟩, Hq⟩ : ∃ q, Hid (cs.getD k chZ = q) := ⟨_, rfl⟩
      rw [Hq.out] at k0 k1 k2
      have hbw : b < wr.heap.size := by have := hx0.size; have := hnx.size; omega
      have hbv : w.heap.size < wr.heap.size := (b0.nx hnx).lt
      cases hch : chB (q0, q1, q2) with
      | false =>
        have HC := Lib.hid hch
        have HR := Lib.hid (segB_no (f := f) (t := t) (m := m) (cs := cs) (.inr (.inr (.inr (.inr (.inr (.inr (chsB_no hlt (by unfold okCh; rw [Hq.out, hch]; rfl))))))))).symm
        clear hch
        go_wp2_with fail
        refine wp_region_lex [false, false, false, false, false, true, false, false, false, false, false, false, false, false, false, false, false, false, false, false, false, false, false, false, false, false, false] (fun w' => w'.cell? ⟨w.heap.size, 3, none⟩ = some (.slice (some ⟨b, off, none⟩) cs.length c) ∧ w'.cell? ⟨b, off + k * 3, none⟩ = some (.int .i64 q0) ∧ w'.cell? ⟨b, off + k * 3 + 1, none⟩ = some (.int .i64 q1) ∧ w'.cell? ⟨b, off + k * 3 + 2, none⟩ = some (.int .i64 q2)) (by kernel_rfl) (by kernel_rfl) rfl (by kernel_rfl) (fun _ _ d _ _ h => by cases d <;> exact h) (by exact ⟨c3, k0, k1, k2⟩) ?_
        repeat (first | (refine HL.take (v := ?_) (by rfl) ?_ ?_; rotate_left; (· (intro w hSw; (try dsimp only at hSw); go_simp; try with_reducible rfl)); (try simp only [Act.put, List.setIfInBounds_toArray, List.set_cons_zero, List.set_cons_succ])) | (refine HL.skip (by rfl) ?_; (try simp only [Act.put, List.setIfInBounds_toArray, List.set_cons_zero, List.set_cons_succ])))
        refine HL.call (by rfl) (fun K hK => ?_)
        go_simp
        refine (l02Change_c q0 q1 q2 _).mono ?_; rintro e w1 ⟨rfl, hnx1⟩; rw [HC.out]; have d3 := (hnx1.cell (p := ⟨w.heap.size, 3, none⟩) hbv).trans c3; have l0 := (hnx1.cell (p := ⟨b, off + k * 3, none⟩) hbw).trans k0; have l1 := (hnx1.cell (p := ⟨b, off + k * 3 + 1, none⟩) hbw).trans k1; have l2 := (hnx1.cell (p := ⟨b, off + k * 3 + 2, none⟩) hbw).trans k2
        go_wp2_with fail
        refine hK.out _ _ (by exact ⟨d3, l0, l1, l2⟩) ?_
        clear hK K
        try simp only [Act.put, List.setIfInBounds_toArray, List.set_cons_zero, List.set_cons_succ]
        repeat (first | (refine HL.take (v := ?_) (by rfl) ?_ ?_; rotate_left; (· (intro w hSw; (try dsimp only at hSw); go_simp; try with_reducible rfl)); (try simp only [Act.put, List.setIfInBounds_toArray, List.set_cons_zero, List.set_cons_succ])) | (refine HL.skip (by rfl) ?_; (try simp only [Act.put, List.setIfInBounds_toArray, List.set_cons_zero, List.set_cons_succ])))
        refine HL.done ?_
        go_wp2
        go_ret
        exact ⟨ret_bool HR.out, hx0.trans (hnx.drew.trans hnx1)⟩
      | true =>
        have HC := Lib.hid hch
        clear hch
        by_cases hk0 : k = 0
        · have hd0 : decide (0 < (k : Int)) = false := by simp; omega
          have HO := Lib.hid (show okCh cs k = true by unfold okCh; rw [Hq.out, HC.out, hk0]; rfl)
          have hd1 : decide (0 < k) = false := by simp; omega
          clear hk0
          go_wp2_with fail
          refine wp_region_lex [false, false, false, false, false, true, false, false, false, false, false, false, false, false, false, false, false, false, false, false, false, false, false, false, false, false, false] (fun w' => w'.cell? ⟨w.heap.size, 3, none⟩ = some (.slice (some ⟨b, off, none⟩) cs.length c) ∧ w'.cell? ⟨b, off + k * 3, none⟩ = some (.int .i64 q0) ∧ w'.cell? ⟨b, off + k * 3 + 1, none⟩ = some (.int .i64 q1) ∧ w'.cell? ⟨b, off + k * 3 + 2, none⟩ = some (.int .i64 q2)) (by kernel_rfl) (by kernel_rfl) rfl (by kernel_rfl) (fun _ _ d _ _ h => by cases d <;> exact h) (by exact ⟨c3, k0, k1, k2⟩) ?_
          repeat (first | (refine HL.take (v := ?_) (by rfl) ?_ ?_; rotate_left; (· (intro w hSw; (try dsimp only at hSw); go_simp; try with_reducible rfl)); (try simp only [Act.put, List.setIfInBounds_toArray, List.set_cons_zero, List.set_cons_succ])) | (refine HL.skip (by rfl) ?_; (try simp only [Act.put, List.setIfInBounds_toArray, List.set_cons_zero, List.set_cons_succ])))
          refine HL.call (by rfl) (fun K hK => ?_)
          go_simp
          refine (l02Change_c q0 q1 q2 _).mono ?_; rintro e w1 ⟨rfl, hnx1⟩; rw [HC.out]; have d3 := (hnx1.cell (p := ⟨w.heap.size, 3, none⟩) hbv).trans c3; have l0 := (hnx1.cell (p := ⟨b, off + k * 3, none⟩) hbw).trans k0; have l1 := (hnx1.cell (p := ⟨b, off + k * 3 + 1, none⟩) hbw).trans k1; have l2 := (hnx1.cell (p := ⟨b, off + k * 3 + 2, none⟩) hbw).trans k2
          go_wp2_with fail
          refine hK.out _ _ (by exact ⟨d3, l0, l1, l2⟩) ?_
          clear hK K
          try simp only [Act.put, List.setIfInBounds_toArray, List.set_cons_zero, List.set_cons_succ]
          repeat (first | (refine HL.take (v := ?_) (by rfl) ?_ ?_; rotate_left; (· (intro w hSw; (try dsimp only at hSw); go_simp; try with_reducible rfl)); (try simp only [Act.put, List.setIfInBounds_toArray, List.set_cons_zero, List.set_cons_succ])) | (refine HL.skip (by rfl) ?_; (try simp only [Act.put, List.setIfInBounds_toArray, List.set_cons_zero, List.set_cons_succ])))
          refine HL.done ?_
          go_wp2
          go_roundw
          case rel => exact ⟨k + 1, by omega, by go_num, hto.succ HO.out, hnx.drew.trans hnx1⟩
          case measure => simp [intOf]; omega
        · obtain ⟨j, rfl⟩ : ∃ j, k = j + 1 := ⟨k - 1, by omega⟩
          obtain ⟨b', off', he, _, m0, _, _⟩ := (h.below (hx0.trans hnx) hB).at_ (k := j) (by omega)
          obtain ⟨rfl, rfl⟩ : b = b' ∧ off = off' := by simpa using he
          clear he
          obtain ⟨⟨r0, r1, r2⟩, Hr⟩ : ∃ q, Hid (cs.getD j chZ = q) := ⟨_, rfl⟩
          rw [Hr.out] at m0
          have hd0 : decide (0 < ((j : Int) + 1)) = true := by simp
          have hd1 : decide (0 < j + 1) = true := by simp
          have hi1 : (0 : Int) ≤ (j : Int) + 1 := by omega
          have hi2 : (j : Int) + 1 < (cs.length : Int) := by omega
          have hi4 : (j : Int) < (cs.length : Int) := by omega
          have hi5 : j < cs.length := by omega
          have hi3 : ((j : Int) + 1).toNat = j + 1 := by omega
          have hw1 : IntKind.i64.wrap ((j : Int) + 1 - 1) = (j : Int) := by rw [Int.add_sub_cancel]; exact IntWalk.i64_in _ (by omega)
          have hw2 : IntKind.i64.wrap (j : Int) = (j : Int) := IntWalk.i64_in _ (by omega)
          have hi6 : (0 : Int) ≤ (j : Int) := by omega
          by_cases hlt2 : r0 < q0
          · have hd : decide (q0 ≤ r0) = false := by simp; omega
            have HO := Lib.hid (show okCh cs (j + 1) = true by unfold okCh; rw [Hq.out, HC.out, Nat.add_sub_cancel, Hr.out]; simp [hlt2])
            go_wp2_with fail
            refine wp_region_lex [false, false, false, false, false, true, false, false, false, false, false, false, false, false, false, false, false, false, false, false, false, false, false, false, false, false, false] (fun w' => w'.cell? ⟨w.heap.size, 3, none⟩ = some (.slice (some ⟨b, off, none⟩) cs.length c) ∧ w'.cell? ⟨b, off + (j + 1) * 3, none⟩ = some (.int .i64 q0) ∧ w'.cell? ⟨b, off + (j + 1) * 3 + 1, none⟩ = some (.int .i64 q1) ∧ w'.cell? ⟨b, off + (j + 1) * 3 + 2, none⟩ = some (.int .i64 q2) ∧ w'.cell? ⟨b, off + j * 3, none⟩ = some (.int .i64 r0)) (by kernel_rfl) (by kernel_rfl) rfl (by kernel_rfl) (fun _ _ d _ _ h => by cases d <;> exact h) (by exact ⟨c3, k0, k1, k2, m0⟩) ?_
            repeat (first | (refine HL.take (v := ?_) (by rfl) ?_ ?_; rotate_left; (· (intro w hSw; (try dsimp only at hSw); go_simp; try with_reducible rfl)); (try simp only [Act.put, List.setIfInBounds_toArray, List.set_cons_zero, List.set_cons_succ])) | (refine HL.skip (by rfl) ?_; (try simp only [Act.put, List.setIfInBounds_toArray, List.set_cons_zero, List.set_cons_succ])))
            refine HL.call (by rfl) (fun K hK => ?_)
            go_simp
            refine (l02Change_c q0 q1 q2 _).mono ?_; rintro e w1 ⟨rfl, hnx1⟩; rw [HC.out]; have d3 := (hnx1.cell (p := ⟨w.heap.size, 3, none⟩) hbv).trans c3; have l0 := (hnx1.cell (p := ⟨b, off + (j + 1) * 3, none⟩) hbw).trans k0; have l1 := (hnx1.cell (p := ⟨b, off + (j + 1) * 3 + 1, none⟩) hbw).trans k1; have l2 := (hnx1.cell (p := ⟨b, off + (j + 1) * 3 + 2, none⟩) hbw).trans k2; have n0 := (hnx1.cell (p := ⟨b, off + j * 3, none⟩) hbw).trans m0
            go_wp2_with fail
            refine hK.out _ _ (by exact ⟨d3, l0, l1, l2, n0⟩) ?_
            clear hK K
            try simp only [Act.put, List.setIfInBounds_toArray, List.set_cons_zero, List.set_cons_succ]
            repeat (first | (refine HL.take (v := ?_) (by rfl) ?_ ?_; rotate_left; (· (intro w hSw; (try dsimp only at hSw); go_simp; try with_reducible rfl)); (try simp only [Act.put, List.setIfInBounds_toArray, List.set_cons_zero, List.set_cons_succ])) | (refine HL.skip (by rfl) ?_; (try simp only [Act.put, List.setIfInBounds_toArray, List.set_cons_zero, List.set_cons_succ])))
            refine HL.done ?_
            clear hw1 hw2 hi6 hi1 hi2 hi3 hi4 hi5
            go_wp2
            go_roundw
            case rel => exact ⟨j + 1 + 1, by omega, by go_num, hto.succ HO.out, hnx.drew.trans hnx1⟩
            case measure => simp [intOf]; omega
          · have hd : decide (q0 ≤ r0) = true := by simp; omega
            have HR := Lib.hid (segB_no (f := f) (t := t) (m := m) (cs := cs) (.inr (.inr (.inr (.inr (.inr (.inr (chsB_no hlt (by unfold okCh; rw [Hq.out, Nat.add_sub_cancel, Hr.out]; simp [hlt2]))))))))).symm
            go_wp2_with fail
            refine wp_region_lex [false, false, false, false, false, true, false, false, false, false, false, false, false, false, false, false, false, false, false, false, false, false, false, false, false, false, false] (fun w' => w'.cell? ⟨w.heap.size, 3, none⟩ = some (.slice (some ⟨b, off, none⟩) cs.length c) ∧ w'.cell? ⟨b, off + (j + 1) * 3, none⟩ = some (.int .i64 q0) ∧ w'.cell? ⟨b, off + (j + 1) * 3 + 1, none⟩ = some (.int .i64 q1) ∧ w'.cell? ⟨b, off + (j + 1) * 3 + 2, none⟩ = some (.int .i64 q2) ∧ w'.cell? ⟨b, off + j * 3, none⟩ = some (.int .i64 r0)) (by kernel_rfl) (by kernel_rfl) rfl (by kernel_rfl) (fun _ _ d _ _ h => by cases d <;> exact h) (by exact ⟨c3, k0, k1, k2, m0⟩) ?_
            repeat (first | (refine HL.take (v := ?_) (by rfl) ?_ ?_; rotate_left; (· (intro w hSw; (try dsimp only at hSw); go_simp; try with_reducible rfl)); (try simp only [Act.put, List.setIfInBounds_toArray, List.set_cons_zero, List.set_cons_succ])) | (refine HL.skip (by rfl) ?_; (try simp only [Act.put, List.setIfInBounds_toArray, List.set_cons_zero, List.set_cons_succ])))
            refine HL.call (by rfl) (fun K hK => ?_)
            go_simp
            refine (l02Change_c q0 q1 q2 _).mono ?_; rintro e w1 ⟨rfl, hnx1⟩; rw [HC.out]; have d3 := (hnx1.cell (p := ⟨w.heap.size, 3, none⟩) hbv).trans c3; have l0 := (hnx1.cell (p := ⟨b, off + (j + 1) * 3, none⟩) hbw).trans k0; have l1 := (hnx1.cell (p := ⟨b, off + (j + 1) * 3 + 1, none⟩) hbw).trans k1; have l2 := (hnx1.cell (p := ⟨b, off + (j + 1) * 3 + 2, none⟩) hbw).trans k2; have n0 := (hnx1.cell (p := ⟨b, off + j * 3, none⟩) hbw).trans m0
            go_wp2_with fail
            refine hK.out _ _ (by exact ⟨d3, l0, l1, l2, n0⟩) ?_
            clear hK K
            try simp only [Act.put, List.setIfInBounds_toArray, List.set_cons_zero, List.set_cons_succ]
            repeat (first | (refine HL.take (v := ?_) (by rfl) ?_ ?_; rotate_left; (· (intro w hSw; (try dsimp only at hSw); go_simp; try with_reducible rfl)); (try simp only [Act.put, List.setIfInBounds_toArray, List.set_cons_zero, List.set_cons_succ])) | (refine HL.skip (by rfl) ?_; (try simp only [Act.put, List.setIfInBounds_toArray, List.set_cons_zero, List.set_cons_succ])))
            refine HL.done ?_
            clear hw1 hw2 hi6 hi1 hi2 hi3 hi4 hi5
            go_wp2
            go_ret
            exact ⟨ret_bool HR.out, hx0.trans (hnx.drew.trans hnx1)⟩
    · obtain rfl : k = cs.length := by omega
      have HR := Lib.hid (segB_mk hf0 (by omega) ht1 H3.out hto.all).symm
      go_wp2
      go_ret
      exact ⟨ret_bool HR.out, hx0.trans hnx⟩
end Go.Proofs.YtehahodomfbpjaaDoor
