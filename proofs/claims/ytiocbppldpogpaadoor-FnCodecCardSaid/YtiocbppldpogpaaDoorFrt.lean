/-
  Contracts of FrameText, as the model has it.
  Conditions: none.
-/
import Derived.Test.YtiocbppldpogpaaDoorSix
import Derived.Test.YtiocbppldpogpaaDoorFrm
namespace Go.Proofs.YtiocbppldpogpaaDoor
set_option linter.unusedVariables false
open Go.RowKit

/-- A text with its sum. -/
def sealS (s : ByteArray) : ByteArray := s ++ ⟨(sumD s).toArray⟩
def numsS (ns : List Nat) : ByteArray := ⟨(padAll ns).toArray⟩
theorem numsS_size (ns : List Nat) : (numsS ns).size = ns.length * 6 := by rw [ba_size]; exact padAll_len ns
def frameS (p b v t : Int) : ByteArray := if frameB p b v t then sealS (numsS [p.toNat, b.toNat, v.toNat, t.toNat]) else ⟨#[]⟩
def codeB (ok : Bool) (c : Int) : Int := if ok then 0 else c
theorem frameB_yes {p b v t : Int} (h : frameB p b v t = true) : (1 ≤ p ∧ p ≤ 999999) ∧ (0 ≤ b ∧ b ≤ 7) ∧ (0 ≤ v ∧ v ≤ 999999) ∧ (0 ≤ t ∧ t ≤ 999999) := by
  unfold frameB at h
  simp only [Bool.and_eq_true] at h
  exact ⟨inB_yes h.1.1.1, inB_yes h.1.1.2, inB_yes h.1.2, inB_yes h.2⟩
theorem ret_tup {a b : ByteArray} {c d : Int} (h : a = b) (k : c = d) : Ending.returned (.tuple #[.string a, .int .i64 c]) = .returned (.tuple #[.string b, .int .i64 d]) := by rw [h, k]

theorem Own.new4 (w : World) (t : TypeId) (a b c d : Value) : Own (w.alloc (.cells #[a, b, c, d] t)) w.heap.size t 4 (fun i => #[a, b, c, d].getD i undef) :=
  ⟨_, heap_alloc_new w _, by simp, fun i hi => by
    match i, hi with
    | 0, _ => rfl
    | 1, _ => rfl
    | 2, _ => rfl
    | 3, _ => rfl⟩
theorem int4 (p b v t : Nat) : ∀ i, i < 4 → (#[Value.int .i64 (p : Int), .int .i64 (b : Int), .int .i64 (v : Int), .int .i64 (t : Int)].getD i undef) = intAt [p, b, v, t] i := fun i hi => by
  match i, hi with
  | 0, _ => rfl
  | 1, _ => rfl
  | 2, _ => rfl
  | 3, _ => rfl
theorem all4 {p b v t : Nat} (h1 : p ≤ 999999) (h2 : b ≤ 999999) (h3 : v ≤ 999999) (h4 : t ≤ 999999) : All6 [p, b, v, t] := fun i hi => by
  match i, hi with
  | 0, _ => exact h1
  | 1, _ => exact h2
  | 2, _ => exact h3
  | 3, _ => exact h4
set_option maxHeartbeats 1000000 in
theorem l02FrameText_c (p b v t : Nat) (w : World) (h1 : p ≤ 999999) (h2 : b ≤ 999999) (h3 : v ≤ 999999) (h4 : t ≤ 999999) :
    Calls Tryd.prog 40 #[.agg #[.int .i64 p, .int .i64 b, .int .i64 v, .int .i64 t]] w fun e w' => e = .returned (.string (sealS (numsS [p, b, v, t]))) ∧ Nx w w' := by
  go_enter Tryd.func40, Tryd.ntmps40
  go_wp2_with fail
  have hx0 := ((Nx.refl w).alloc (.cells #[.int .i64 p, .int .i64 b, .int .i64 v, .int .i64 t] 28)).alloc (.cells #[.int .i64 p, .int .i64 b, .int .i64 v, .int .i64 t] 3)
  have ho := (Own.new4 (w.alloc (.cells #[.int .i64 p, .int .i64 b, .int .i64 v, .int .i64 t] 28)) 3 (.int .i64 p) (.int .i64 b) (.int .i64 v) (.int .i64 t)).congr (int4 p b v t)
  simp only [World.size_alloc] at ho
  generalize (w.alloc (.cells #[.int .i64 p, .int .i64 b, .int .i64 v, .int .i64 t] 28)).alloc (.cells #[.int .i64 p, .int .i64 b, .int .i64 v, .int .i64 t] 3) = W at *
  refine (l02Join_c _ 4 _ [p, b, v, t] _ (ho.row ho.lt) (Nat.le_refl _) (all4 h1 h2 h3 h4) (by simp)).mono ?_
  rintro e w1 ⟨rfl, hnx1⟩
  go_wp2_with fail
  refine (l02Seal_c (numsS [p, b, v, t]) _ (by rw [numsS_size]; simp)).mono ?_
  rintro e w2 ⟨rfl, hnx2⟩
  go_wp2
  go_ret
  exact ⟨rfl, (hx0.trans hnx1).trans hnx2⟩
set_option maxHeartbeats 1000000 in
theorem specFrameText_c (p b v t : Int) (w : World) :
    Calls Tryd.prog 12 #[.agg #[.int .i64 p, .int .i64 b, .int .i64 v, .int .i64 t]] w fun e w' => e = .returned (.tuple #[.string (frameS p b v t), .int .i64 (codeB (frameB p b v t) 1)]) ∧ Nx w w' := by
  cases hf : frameB p b v t with
  | false =>
    have HF := Lib.hid hf
    have HS := Lib.hid (show (⟨#[]⟩ : ByteArray) = frameS p b v t by unfold frameS; rw [hf]; rfl)
    clear hf
    go_enter Tryd.func12, Tryd.ntmps12
    go_wp2_with fail
    refine (specFrameOK_c p b v t _).mono ?_
    rintro e w1 ⟨rfl, hnx1⟩
    rw [HF.out]
    go_wp2
    go_ret2
    exact ⟨ret_tup HS.out rfl, ((Nx.refl w).alloc _).trans hnx1⟩
  | true =>
    obtain ⟨⟨p1, p2⟩, ⟨b1, b2⟩, ⟨v1, v2⟩, ⟨t1, t2⟩⟩ := frameB_yes hf
    obtain ⟨p, rfl⟩ := Int.eq_ofNat_of_zero_le (show 0 ≤ p by omega)
    obtain ⟨b, rfl⟩ := Int.eq_ofNat_of_zero_le b1
    obtain ⟨v, rfl⟩ := Int.eq_ofNat_of_zero_le v1
    obtain ⟨t, rfl⟩ := Int.eq_ofNat_of_zero_le t1
    have HF := Lib.hid hf
    have HS := Lib.hid (show sealS (numsS [p, b, v, t]) = frameS p b v t by unfold frameS; rw [hf]; rfl)
    clear hf
    go_enter Tryd.func12, Tryd.ntmps12
    go_wp2_with fail
    have b0 := Box.new w 28 #[.int .i64 p, .int .i64 b, .int .i64 v, .int .i64 t]
    have hx0 := (Nx.refl w).alloc (.cells #[.int .i64 p, .int .i64 b, .int .i64 v, .int .i64 t] 28)
    generalize w.alloc (.cells #[.int .i64 p, .int .i64 b, .int .i64 v, .int .i64 t] 28) = W at *
    refine (specFrameOK_c p b v t _).mono ?_
    rintro e w1 ⟨rfl, hnx1⟩
    rw [HF.out]
    obtain ⟨c0, c1, c2, c3⟩ := (b0.nx hnx1).d4
    go_wp2_with fail
    refine (l02FrameText_c p b v t _ (by omega) (by omega) (by omega) (by omega)).mono ?_
    rintro e w2 ⟨rfl, hnx2⟩
    go_wp2
    go_ret2
    exact ⟨ret_tup HS.out rfl, (hx0.trans hnx1).trans hnx2⟩
end Go.Proofs.YtiocbppldpogpaaDoor
