/-
  Numbers read back from digits: what they are, and the contracts of the program's numberOf and numbersOf, and of the model's l02Numbers.
  Conditions: texts of at most 65536 bytes; the package's errors are known.
-/
import Derived.Test.YteckhdkghfidiaaDoorErs
import Derived.Test.YteckhdkghfidiaaDoorNat
import Derived.Deep.QuietTactic
import Derived.BigQuiet
namespace Go.Proofs.YteckhdkghfidiaaDoor
set_option linter.unusedVariables false
open Go.RowKit

/-- The package's two errors: a0 of a text that is none, a1 of one that is too long. -/
def Er (w : World) (a0 a1 : Addr) : Prop :=
  w.cell? ⟨0, 0, none⟩ = some (.iface 150 (.pointer (some a0))) ∧ w.cell? ⟨1, 0, none⟩ = some (.iface 150 (.pointer (some a1))) ∧ a0 ≠ a1 ∧
  (∃ ca ta, w.heap[a0.block]? = some (.cells ca ta (0, 0))) ∧ ∃ ca ta, w.heap[a1.block]? = some (.cells ca ta (0, 0))
theorem lt_of_heap {w : World} {g : Nat} {o : Obj} (h : w.heap[g]? = some o) : g < w.heap.size := by
  rcases Nat.lt_or_ge g w.heap.size with hlt | hge
  · exact hlt
  · rw [Array.getElem?_eq_none hge] at h; cases h
theorem Er.nx {w w' : World} {a0 a1 : Addr} (h : Er w a0 a1) (hb : Nx w w') : Er w' a0 a1 := by
  obtain ⟨h0, h1, hne, ⟨ca, ta, e0⟩, cb, tb, e1⟩ := h
  exact ⟨(hb.cell (p := ⟨0, 0, none⟩) (World.block_lt_of_cell? w _ h0)).trans h0, (hb.cell (p := ⟨1, 0, none⟩) (World.block_lt_of_cell? w _ h1)).trans h1, hne,
    ⟨ca, ta, (hb.block _ (lt_of_heap e0)).trans e0⟩, cb, tb, (hb.block _ (lt_of_heap e1)).trans e1⟩

def digI (c : Int) : Bool := decide (48 ≤ c) && decide (c ≤ 57)
def digC (c : UInt8) : Bool := digI (c.toNat : Int)
def digL (l : List UInt8) : Bool := l.all digC
def valL (l : List UInt8) : Nat := l.foldl (fun n c => 10 * n + (c.toNat - 48)) 0
theorem digI_yes {c : Int} (h : digI c = true) : 48 ≤ c ∧ c ≤ 57 := by unfold digI at h; simpa using h
theorem valL_snoc (l : List UInt8) (c : UInt8) : valL (l ++ [c]) = 10 * valL l + (c.toNat - 48) := by unfold valL; rw [List.foldl_append]; rfl
theorem digL_snoc (l : List UInt8) (c : UInt8) : digL (l ++ [c]) = (digL l && digC c) := by unfold digL; rw [List.all_append]; simp
theorem valL_bd : ∀ (n : Nat) {l : List UInt8}, l.length = n → digL l = true → valL l < 10 ^ n := by
  intro n
  induction n with
  | zero => intro l hl _; rw [List.length_eq_zero_iff.1 hl]; decide
  | succ n ih =>
    intro l hl h
    rcases List.eq_nil_or_concat l with rfl | ⟨l', c, rfl⟩
    · simp at hl
    · rw [List.concat_eq_append] at hl h ⊢
      rw [digL_snoc, Bool.and_eq_true] at h
      have h1 := ih (by simpa using hl) h.1
      have h2 := digI_yes (show digI (c.toNat : Int) = true from h.2)
      rw [valL_snoc, Nat.pow_succ]
      omega
theorem digL_no {l : List UInt8} {k : Nat} (hk : k < l.length) (h : digC l[k] = false) : digL l = false := by
  unfold digL
  rw [List.all_eq_false]
  exact ⟨l[k], List.getElem_mem hk, by rw [h]; simp⟩
theorem getL (s : ByteArray) (k : Nat) (hk : k < s.size) : s.data.toList[k]'(by simpa using hk) = s[k] := rfl
theorem digL_yes {l : List UInt8} {k : Nat} (h : digL l = true) (hk : k < l.length) : digC l[k] = true := List.all_eq_true.1 h _ (List.getElem_mem hk)

set_option maxHeartbeats 1000000 in
theorem isDigit_c (c : Int) (w : World) : Calls Tryd.prog 82 #[.int .u8 c] w fun e w' => e = .returned (.bool (digI c)) ∧ w = w' := by
  go_enter Tryd.func82, Tryd.ntmps82
  go_wp2
  all_goals (go_ret; refine ⟨ret_bool ?_, rfl⟩; unfold digI; rw [Bool.eq_iff_iff]; simp; try omega)
set_option maxHeartbeats 1000000 in
theorem l00Digit_c (c : Int) (w : World) : Calls Tryd.prog 69 #[.int .u8 c] w fun e w' => e = .returned (.bool (digI c)) ∧ w = w' := by
  go_enter Tryd.func69, Tryd.ntmps69
  go_wp2
  all_goals (go_ret; refine ⟨ret_bool ?_, rfl⟩; unfold digI; rw [Bool.eq_iff_iff]; simp; try omega)

def valTo (s : ByteArray) (k : Nat) : Nat := valL (s.data.toList.take k)
theorem valTo_succ (s : ByteArray) (k : Nat) (h : k < s.size) : valTo s (k + 1) = 10 * valTo s k + (s[k].toNat - 48) := by
  unfold valTo; rw [take_snoc s k h, valL_snoc]
theorem valTo_bd {s : ByteArray} {k : Nat} (hk : k ≤ 6) (h : digL (s.data.toList.take k) = true) : valTo s k < 1000000 := by
  have h1 := valL_bd _ rfl h
  have h2 : (s.data.toList.take k).length ≤ 6 := Nat.le_trans (List.length_take_le _ _) hk
  have h3 : 10 ^ (s.data.toList.take k).length ≤ 10 ^ 6 := Nat.pow_le_pow_right (by omega) h2
  unfold valTo
  omega
theorem num_step {n : Nat} {c : UInt8} (h1 : 48 ≤ (c.toNat : Int)) : 10 * (n : Int) + ((c.toNat : Int) - 48) = ((10 * n + (c.toNat - 48) : Nat) : Int) := by omega

def numV (s : ByteArray) (a0 : Addr) : Value := if digL s.data.toList then .tuple #[.int .i64 ((valL s.data.toList : Nat) : Int), .nilIface] else .tuple #[.int .i64 0, .iface 150 (.pointer (some a0))]
theorem numV_yes {s : ByteArray} {a0 : Addr} (h : digL s.data.toList = true) : .tuple #[.int .i64 ((valL s.data.toList : Nat) : Int), .nilIface] = numV s a0 := by unfold numV; rw [h]; rfl
theorem numV_no {s : ByteArray} {a0 : Addr} (h : digL s.data.toList = false) : .tuple #[.int .i64 0, .iface 150 (.pointer (some a0))] = numV s a0 := by unfold numV; rw [h]; rfl
def RetN (w : World) (v : Value) (e : Ending) (w' : World) : Prop := e = .returned v ∧ Nx w w'
set_option maxRecDepth 100000 in
set_option maxHeartbeats 1000000 in
theorem numberOf_c (s : ByteArray) (w : World) (a0 a1 : Addr) (hs : s.size = 6) (hE : Er w a0 a1) :
    Calls Tryd.prog 72 #[.string s] w (RetN w (numV s a0)) := by
  obtain ⟨c0, _⟩ := hE
  have hs6 : s.size ≤ 6 := by omega
  have Hs := Lib.hid hs
  clear hs
  go_enter Tryd.func72, Tryd.ntmps72
  go_wp2
  go_loop [4, 5] (fun n i => ∃ k : Nat, k ≤ s.size ∧ i = .int .i64 k ∧ digL (s.data.toList.take k) = true ∧ n = .int .i64 ((valTo s k : Nat) : Int)) (fun _ i => s.size - (intOf i).toNat)
  case atStart => exact ⟨0, Nat.zero_le _, rfl, rfl, rfl⟩
  case round =>
    obtain ⟨k, hk, rfl, hd, rfl⟩ := hrel
    have HD := Lib.hid hd
    clear hd
    by_cases hlt : k < s.size
    · have hbd := valTo_bd (s := s) (k := k) (by omega) HD.out
      have HV := Lib.hid (valTo_succ s k hlt)
      have HT := Lib.hid (take_snoc s k hlt)
      obtain ⟨m, Hm⟩ : ∃ m, Hid (valTo s k = m) := ⟨_, rfl⟩
      rw [Hm.out] at hbd HV ⊢
      cases hC : digI (s[k].toNat : Int) with
      | true =>
        obtain ⟨h1, h2⟩ := digI_yes hC
        have HC := Lib.hid hC
        clear hC
        go_wp2_with (go_at_call 82; refine (isDigit_c _ _).mono ?_; rintro e w' ⟨rfl, rfl⟩; rw [HC.out])
        go_round
        case rel => exact ⟨k + 1, by omega, by go_num, by rw [HT.out, digL_snoc, HD.out]; exact HC.out, by rw [HV.out, num_step h1]⟩
        case measure => simp [intOf]; omega
      | false =>
        have HC := Lib.hid hC
        have HF := Lib.hid (digL_no (l := s.data.toList) (k := k) (by simpa using hlt) (by rw [getL s k hlt]; exact hC))
        clear hC
        go_wp2_with (go_at_call 82; refine (isDigit_c _ _).mono ?_; rintro e w' ⟨rfl, rfl⟩; rw [HC.out])
        go_quiet (fail)
        go_wp2
        go_ret2
        exact ⟨congrArg Ending.returned (numV_no HF.out), (Nx.refl _).drewN _⟩
    · obtain rfl : k = s.size := by omega
      have e : s.data.toList.take s.size = s.data.toList := List.take_of_length_le (by simp)
      rw [e] at HD
      have HV := Lib.hid (show valTo s s.size = valL s.data.toList by unfold valTo; rw [e])
      rw [HV.out]
      clear e
      go_wp2
      go_ret2
      exact ⟨congrArg Ending.returned (numV_yes HD.out), Nx.refl _⟩
end Go.Proofs.YteckhdkghfidiaaDoor
