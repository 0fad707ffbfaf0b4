/-
  Words on segments: lists of changes in memory, what a segment is, and contracts of SegOK, as the model and as the program have it: both answer the same bool.
  Conditions: the segment can be read, and has at most 1048576 changes.
-/
import Derived.Test.YtihpadelfpogmaaFrm
import Derived.Deep.RegionHeld3
namespace Go.Proofs.Ytihpadelfpogmaa
set_option linter.unusedVariables false
set_option maxRecDepth 100000
open Go.RowKit

/-- A change: block, new value, old value. -/
abbrev Chg := Int × Int × Int
def chZ : Chg := (0, 0, 0)
def chAt (cs : List Chg) (i : Nat) : Value := .int .i64 (if i % 3 = 0 then (cs.getD (i / 3) chZ).1 else if i % 3 = 1 then (cs.getD (i / 3) chZ).2.1 else (cs.getD (i / 3) chZ).2.2)
theorem chAt0 (cs : List Chg) (k : Nat) : chAt cs (k * 3) = .int .i64 (cs.getD k chZ).1 := by
  unfold chAt; rw [if_pos (by omega), show k * 3 / 3 = k by omega]
theorem chAt1 (cs : List Chg) (k : Nat) : chAt cs (k * 3 + 1) = .int .i64 (cs.getD k chZ).2.1 := by
  unfold chAt; rw [if_neg (by omega), if_pos (by omega), show (k * 3 + 1) / 3 = k by omega]
theorem chAt2 (cs : List Chg) (k : Nat) : chAt cs (k * 3 + 2) = .int .i64 (cs.getD k chZ).2.2 := by
  unfold chAt; rw [if_neg (by omega), if_neg (by omega), show (k * 3 + 2) / 3 = k by omega]
/-- A list of changes that is read. -/
def Chs (w : World) (B : Nat) (A : Option Addr) (cs : List Chg) : Prop := Row w B A (cs.length * 3) (chAt cs)
theorem Chs.below {w w' : World} {B B' : Nat} {A : Option Addr} {cs : List Chg} (h : Chs w B A cs) (hb : Below B' w w') (hB : B ≤ B') : Chs w' B A cs := Row.below h hb hB
theorem Chs.at_ {w : World} {B k : Nat} {A : Option Addr} {cs : List Chg} (h : Chs w B A cs) (hk : k < cs.length) :
    ∃ b off, A = some ⟨b, off, none⟩ ∧ b < B ∧ w.cell? ⟨b, off + k * 3, none⟩ = some (.int .i64 (cs.getD k chZ).1) ∧ w.cell? ⟨b, off + k * 3 + 1, none⟩ = some (.int .i64 (cs.getD k chZ).2.1) ∧ w.cell? ⟨b, off + k * 3 + 2, none⟩ = some (.int .i64 (cs.getD k chZ).2.2) := by
  obtain ⟨b, off, e, hb, hc⟩ := h (by omega)
  have h0 := hc (k * 3) (by omega)
  have h1 := hc (k * 3 + 1) (by omega)
  have h2 := hc (k * 3 + 2) (by omega)
  rw [chAt0] at h0
  rw [chAt1] at h1
  rw [chAt2] at h2
  exact ⟨b, off, e, hb, h0, h1, h2⟩
def chB (c : Chg) : Bool := inB 0 7 c.1 && inB 0 999999 c.2.1 && inB 0 999999 c.2.2
def okCh (cs : List Chg) (k : Nat) : Bool := chB (cs.getD k chZ) && (k == 0 || decide ((cs.getD (k - 1) chZ).1 < (cs.getD k chZ).1))
def chsB (cs : List Chg) : Bool := (List.range cs.length).all (okCh cs)
/-- What a segment is. -/
def segB (f t m : Int) (cs : List Chg) : Bool := inB 0 999999 f && inB 0 999999 t && decide (f < t) && inB 0 999999 m && chsB cs
def OkTo (cs : List Chg) (k : Nat) : Prop := ∀ j, j < k → okCh cs j = true
theorem OkTo.zero (cs : List Chg) : OkTo cs 0 := fun j h => absurd h (by omega)
theorem OkTo.succ {cs : List Chg} {k : Nat} (h : OkTo cs k) (hk : okCh cs k = true) : OkTo cs (k + 1) := fun j hj => by
  rcases Nat.lt_or_ge j k with hlt | hge
  · exact h j hlt
  · obtain rfl : j = k := by omega
    exact hk
theorem OkTo.all {cs : List Chg} (h : OkTo cs cs.length) : chsB cs = true := List.all_eq_true.2 fun j hj => h j (by simpa using hj)
theorem chsB_to {cs : List Chg} (h : chsB cs = true) : OkTo cs cs.length := fun j hj => List.all_eq_true.1 h j (by simpa using hj)
theorem chsB_no {cs : List Chg} {k : Nat} (hk : k < cs.length) (h : okCh cs k = false) : chsB cs = false := by
  unfold chsB
  rw [List.all_eq_false]
  exact ⟨k, by simpa using hk, by rw [h]; simp⟩
theorem OkTo.rise {cs : List Chg} {k : Nat} (h : OkTo cs k) : ∀ j, j < k → (j : Int) ≤ (cs.getD j chZ).1 ∧ (cs.getD j chZ).1 ≤ 7 := by
  intro j
  induction j with
  | zero =>
    intro hj
    have h0 := h 0 hj
    unfold okCh chB at h0
    simp only [Bool.and_eq_true] at h0
    exact inB_yes h0.1.1.1
  | succ j ih =>
    intro hj
    have h0 := h (j + 1) hj
    obtain ⟨h1, _⟩ := ih (by omega)
    unfold okCh chB at h0
    simp only [Bool.and_eq_true, Bool.or_eq_true, decide_eq_true_eq, Nat.add_sub_cancel] at h0
    obtain ⟨_, h3⟩ := inB_yes h0.1.1.1
    rcases h0.2 with h2 | h2
    · simp at h2
    · exact ⟨by omega, h3⟩
theorem chsB_len {cs : List Chg} (h : chsB cs = true) : cs.length ≤ 8 := by
  rcases Nat.lt_or_ge 8 cs.length with hl | hl
  · have := (chsB_to h).rise 8 hl
    omega
  · exact hl
theorem segB_no {f t m : Int} {cs : List Chg} (h : inB 0 999998 f = false ∨ inB (f + 1) 999999 t = false ∨ inB 0 999999 f = false ∨ inB 0 999999 t = false ∨ decide (f < t) = false ∨ inB 0 999999 m = false ∨ chsB cs = false) : segB f t m cs = false := by
  rcases h with h | h | h | h | h | h | h
  · unfold segB inB at *
    simp only [Bool.and_eq_false_iff, decide_eq_false_iff_not] at *
    omega
  · unfold segB inB at *
    simp only [Bool.and_eq_false_iff, decide_eq_false_iff_not] at *
    omega
  · unfold segB; rw [h]; rfl
  · unfold segB; rw [h]; simp
  · unfold segB; rw [h]; simp
  · unfold segB; rw [h]; simp
  · unfold segB; rw [h]; simp
theorem segB_mk {f t m : Int} {cs : List Chg} (h1 : 0 ≤ f) (h2 : f < t) (h3 : t ≤ 999999) (h4 : inB 0 999999 m = true) (h5 : chsB cs = true) : segB f t m cs = true := by
  unfold segB
  rw [inB_mk h1 (by omega), inB_mk (by omega) h3, h4, h5, decide_eq_true h2]; rfl

set_option maxHeartbeats 1000000 in
theorem l02Change_c (a b c : Int) (w : World) : Calls Try.prog 153 #[.agg #[.int .i64 a, .int .i64 b, .int .i64 c]] w fun e w' => e = .returned (.bool (chB (a, b, c))) ∧ Nx w w' := by
  obtain ⟨x1, H1⟩ : ∃ r, Hid (inB 0 7 a = r) := ⟨_, rfl⟩
  obtain ⟨x2, H2⟩ : ∃ r, Hid (inB 0 999999 b = r) := ⟨_, rfl⟩
  obtain ⟨x3, H3⟩ : ∃ r, Hid (inB 0 999999 c = r) := ⟨_, rfl⟩
  have HR := Lib.hid (show (x1 && x2 && x3) = chB (a, b, c) by rw [← H1.out, ← H2.out, ← H3.out]; rfl)
  cases x1 <;> cases x2 <;> cases x3 <;> (
    go_enter Try.func153, Try.ntmps153
    go_wp2_with (go_at_call 122; refine (l01In_c _ _ _ _).mono ?_; rintro e w' ⟨rfl, rfl⟩; first | rw [H1.out] | rw [H2.out] | rw [H3.out])
    go_ret
    exact ⟨ret_bool HR.out, (Nx.refl _).alloc _⟩)
set_option maxHeartbeats 1000000 in
theorem changeRight_c (a b c : Int) (w : World) : Calls Try.prog 151 #[.agg #[.int .i64 a, .int .i64 b, .int .i64 c]] w fun e w' => e = .returned (.bool (chB (a, b, c))) ∧ Nx w w' := by
  obtain ⟨x1, H1⟩ : ∃ r, Hid (inB 0 7 a = r) := ⟨_, rfl⟩
  obtain ⟨x2, H2⟩ : ∃ r, Hid (inB 0 999999 b = r) := ⟨_, rfl⟩
  obtain ⟨x3, H3⟩ : ∃ r, Hid (inB 0 999999 c = r) := ⟨_, rfl⟩
  have HR := Lib.hid (show (x1 && x2 && x3) = chB (a, b, c) by rw [← H1.out, ← H2.out, ← H3.out]; rfl)
  cases x1 <;> cases x2 <;> cases x3 <;> (
    go_enter Try.func151, Try.ntmps151
    go_wp2_with (first
      | (go_at_call 139; refine (isBlock_c _ _).mono ?_; rintro e w' ⟨rfl, rfl⟩; rw [H1.out])
      | (go_at_call 113; refine (isValue_c _ _).mono ?_; rintro e w' ⟨rfl, rfl⟩; first | rw [H2.out] | rw [H3.out]))
    go_ret
    exact ⟨ret_bool HR.out, (Nx.refl _).alloc _⟩)
end Go.Proofs.Ytihpadelfpogmaa
