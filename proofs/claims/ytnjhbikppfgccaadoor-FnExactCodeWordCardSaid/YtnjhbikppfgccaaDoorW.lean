/-
  Contracts of CodeWord and CodeOf, as the program and as the model have them, and of the two laws over both, where the table of words lies in memory as the program's text lays it.
  Conditions: the table of words holds its twenty words.
-/
import Derived.Test.YtnjhbikppfgccaaDoorRows
import Derived.WalkKit
import Derived.ProofKit
import Derived.OpenShut
import Derived.ShutString
import Derived.WalkSpells
import Derived.Lib.Hide
namespace Go.Proofs.YtnjhbikppfgccaaDoor.cw
open Go.ChangeShapes Go.WideShapes Go.ChangeAt Go.RowKit
open Go.ChangeMaps (open_string shut_string)
def words : List (List UInt8) := [[111, 107], [98, 97, 100], [108, 111, 110, 103], [102, 111, 114, 109], [114, 97, 110, 103, 101], [110, 111, 110, 101], [109, 97, 110, 121], [102, 117, 108, 108], [115, 105, 122, 101], [116, 104, 101, 114, 101], [100, 97, 109, 97, 103, 101, 100], [114, 101, 116, 97, 105, 110, 101, 100], [109, 111, 118, 105, 110, 103], [111, 112, 101, 110], [115, 104, 117, 116], [100, 111, 119, 110], [117, 112], [103, 97, 112], [109, 97, 114, 107, 101, 100], [115, 117, 112, 101, 114]]
def word (k : Nat) : ByteArray := ⟨(words.getD k []).toArray⟩
def TabIs (w : World) : Prop := ∀ i, i < 20 → w.cell? ⟨0, i, none⟩ = some (.string (word i))
theorem ret_str {a b : ByteArray} (h : a = b) : Ending.returned (.string a) = .returned (.string b) := by rw [h]
theorem twenty (c : Nat) (h1 : c < 20) : c = 0 ∨ c = 1 ∨ c = 2 ∨ c = 3 ∨ c = 4 ∨ c = 5 ∨ c = 6 ∨ c = 7 ∨ c = 8 ∨ c = 9 ∨ c = 10 ∨ c = 11 ∨ c = 12 ∨ c = 13 ∨ c = 14 ∨ c = 15 ∨ c = 16 ∨ c = 17 ∨ c = 18 ∨ c = 19 := by omega
set_option maxHeartbeats 1000000 in
theorem specWord (k : Nat) (w : World) (h1 : k < 20) : Calls Tryd.prog 5 #[.int .i64 k] w fun e w' => e = .returned (.string (word k)) ∧ Below w.heap.size w w' := by
  go_enter Tryd.func5, Tryd.ntmps5
  go_wp2
  go_ret
  refine ⟨?_, (Below.refl _ _).alloc (Nat.le_refl _) _⟩
  rcases twenty k h1 with rfl|rfl|rfl|rfl|rfl|rfl|rfl|rfl|rfl|rfl|rfl|rfl|rfl|rfl|rfl|rfl|rfl|rfl|rfl|rfl <;> rfl
set_option maxHeartbeats 1000000 in
theorem specNone (c : Int) (w : World) (h : c < 0 ∨ 20 ≤ c) : Calls Tryd.prog 5 #[.int .i64 c] w fun e w' => e = .returned (.string ⟨#[]⟩) ∧ Below w.heap.size w w' := by
  rcases h with h | h
  · go_enter Tryd.func5, Tryd.ntmps5
    go_wp2
    go_ret
    exact ⟨rfl, (Below.refl _ _).alloc (Nat.le_refl _) _⟩
  · have h' : decide (c < 0) = false := by simp; omega
    go_enter Tryd.func5, Tryd.ntmps5
    go_wp2
    go_ret
    exact ⟨rfl, (Below.refl _ _).alloc (Nat.le_refl _) _⟩
set_option maxHeartbeats 1000000 in
theorem implNone (c : Int) (w : World) (h : c < 0 ∨ 20 ≤ c) : Calls Tryd.prog 6 #[.int .i64 c] w fun e w' => e = .returned (.string ⟨#[]⟩) ∧ w = w' := by
  rcases h with h | h
  · go_enter Tryd.func6, Tryd.ntmps6
    go_wp2
    go_ret
    exact ⟨rfl, rfl⟩
  · have h' : decide (c < 0) = false := by simp; omega
    go_enter Tryd.func6, Tryd.ntmps6
    go_wp2
    go_ret
    exact ⟨rfl, rfl⟩
set_option maxHeartbeats 1000000 in
theorem implWord (k : Nat) (w : World) (h1 : k < 20) (hT : w.cell? ⟨0, k, none⟩ = some (.string (word k))) : Calls Tryd.prog 6 #[.int .i64 k] w fun e w' => e = .returned (.string (word k)) ∧ w = w' := by
  go_enter Tryd.func6, Tryd.ntmps6
  go_wp2
  go_ret
  exact ⟨rfl, rfl⟩

def NoneTo (s : ByteArray) (k : Nat) : Prop := ∀ j, j < k → ((word j).toList == s.toList) = false
def codeOf (s : ByteArray) : Int := match (List.range 20).find? (fun i => (word i).toList == s.toList) with | some i => i | none => -1
theorem noneTo_zero (s : ByteArray) : NoneTo s 0 := fun j h => absurd h (by omega)
theorem noneTo_succ (s : ByteArray) (k : Nat) (h : NoneTo s k) (hk : ((word k).toList == s.toList) = false) : NoneTo s (k + 1) := fun j hj => by
  rcases Nat.lt_or_ge j k with hlt | hge
  · exact h j hlt
  · obtain rfl : j = k := by omega
    exact hk
theorem codeOf_none (s : ByteArray) (h : NoneTo s 20) : -1 = codeOf s := by
  unfold codeOf
  have : (List.range 20).find? (fun i => (word i).toList == s.toList) = none := by
    rw [List.find?_eq_none]
    intro i hi
    rw [h i (by simpa using hi)]; simp
  rw [this]
theorem codeOf_at (s : ByteArray) (k : Nat) (hk : k < 20) (h : NoneTo s k) (he : ((word k).toList == s.toList) = true) : (k : Int) = codeOf s := by
  unfold codeOf
  have : (List.range 20).find? (fun i => (word i).toList == s.toList) = some k := by
    rw [List.find?_range_eq_some]
    refine ⟨he, by simpa using hk, fun j hj => by rw [h j hj]; rfl⟩
  rw [this]
theorem ret_int {a b : Int} (h : a = b) : Ending.returned (.int .i64 a) = .returned (.int .i64 b) := by rw [h]

set_option maxHeartbeats 1000000 in
theorem implCodeOf (s : ByteArray) (w : World) (hT : TabIs w) : Calls Tryd.prog 8 #[.string s] w fun e w' => e = .returned (.int .i64 (codeOf s)) ∧ w = w' := by
  go_enter Tryd.func8, Tryd.ntmps8
  go_wp2
  go_loop [3] (fun i => ∃ k : Nat, k ≤ 20 ∧ i = .int .i64 k ∧ NoneTo s k) (fun i => 20 - (intOf i).toNat)
  case atStart => exact ⟨0, Nat.zero_le _, rfl, noneTo_zero s⟩
  case round =>
    obtain ⟨k, hk, rfl, hn⟩ := hrel
    by_cases hlt : k < 20
    · have hc := hT k hlt
      cases he : (word k).toList == s.toList with
      | true =>
        go_wp2
        go_ret
        exact ⟨ret_int (codeOf_at s k hlt hn he), rfl⟩
      | false =>
        go_wp2
        go_round
        case rel => exact ⟨k + 1, by omega, by go_num, noneTo_succ s k hn he⟩
        case measure => simp [intOf]; omega
    · obtain rfl : k = 20 := by omega
      go_wp2
      go_ret
      exact ⟨ret_int (codeOf_none s hn), rfl⟩

set_option maxHeartbeats 1000000 in
theorem specCodeOf (s : ByteArray) (w : World) : Calls Tryd.prog 7 #[.string s] w fun e w' => e = .returned (.int .i64 (codeOf s)) ∧ Below w.heap.size w w' := by
  go_enter Tryd.func7, Tryd.ntmps7
  go_wp2
  go_loopw [3] (fun i wr => ∃ k : Nat, k ≤ 20 ∧ i = .int .i64 k ∧ NoneTo s k ∧ Below w.heap.size w wr) (fun i _ => 20 - (intOf i).toNat)
  case atStart => exact ⟨0, Nat.zero_le _, rfl, noneTo_zero s, Below.refl _ _⟩
  case round =>
    obtain ⟨k, hk, rfl, hn, hb⟩ := hrel
    by_cases hlt : k < 20
    · cases he : (word k).toList == s.toList with
      | true =>
        go_wp2_with (go_at_call 5; refine (specWord k _ hlt).mono ?_; rintro e w' ⟨rfl, hb2⟩)
        go_ret
        exact ⟨ret_int (codeOf_at s k hlt hn he), hb.trans (hb2.mono hb.size)⟩
      | false =>
        go_wp2_with (go_at_call 5; refine (specWord k _ hlt).mono ?_; rintro e w' ⟨rfl, hb2⟩)
        go_roundw
        case rel => exact ⟨k + 1, by omega, by go_num, noneTo_succ s k hn he, hb.trans (hb2.mono hb.size)⟩
        case measure => simp [intOf]; omega
    · obtain rfl : k = 20 := by omega
      go_wp2
      go_ret
      exact ⟨ret_int (codeOf_none s hn), hb⟩

theorem tab_below {w w' : World} (h : TabIs w) (hb : Below w.heap.size w w') (h0 : 0 < w.heap.size) : TabIs w' := fun i hi => (hb.cell (p := ⟨0, i, none⟩) h0).trans (h i hi)

set_option maxHeartbeats 1000000 in
theorem lawCodeOf (s : ByteArray) (w : World) (hT : TabIs w) (h0 : 0 < w.heap.size) : Calls Tryd.prog 4 #[.string s] w fun e w' => e = .returned (.bool true) ∧ Below w.heap.size w w' := by
  by_cases hb : s.size ≤ 1048576
  · have hb' : decide (1048576 < (s.size : Int)) = false := by simp; omega
    go_enter Tryd.func4, Tryd.ntmps4
    go_wp2_with fail
    refine (specCodeOf s _).mono ?_
    rintro e w1 ⟨rfl, hb1⟩
    have hT1 := tab_below hT hb1 h0
    go_wp2_with fail
    refine (implCodeOf s _ hT1).mono ?_
    rintro e w2 ⟨rfl, rfl⟩
    go_wp2
    go_ret
    exact ⟨rfl, hb1⟩
  · have hb' : decide (1048576 < (s.size : Int)) = true := by simp; omega
    go_enter Tryd.func4, Tryd.ntmps4
    go_wp2
    go_ret
    exact ⟨rfl, Below.refl _ _⟩

set_option maxHeartbeats 1000000 in
theorem lawCodeWord (c : Int) (w : World) (hT : TabIs w) (h0 : 0 < w.heap.size) : Calls Tryd.prog 3 #[.int .i64 c] w fun e w' => e = .returned (.bool true) ∧ Below w.heap.size w w' := by
  by_cases hr : c < 0 ∨ 20 ≤ c
  · go_enter Tryd.func3, Tryd.ntmps3
    go_wp2_with fail
    refine (specNone c _ hr).mono ?_
    rintro e w1 ⟨rfl, hb1⟩
    go_wp2_with fail
    refine (implNone c _ hr).mono ?_
    rintro e w2 ⟨rfl, rfl⟩
    go_wp2
    go_ret
    exact ⟨rfl, hb1⟩
  · obtain ⟨k, rfl⟩ := Int.eq_ofNat_of_zero_le (show 0 ≤ c by omega)
    have hk : k < 20 := by omega
    go_enter Tryd.func3, Tryd.ntmps3
    go_wp2_with fail
    refine (specWord k _ hk).mono ?_
    rintro e w1 ⟨rfl, hb1⟩
    have hT1 := tab_below hT hb1 h0 k hk
    go_wp2_with fail
    refine (implWord k _ hk hT1).mono ?_
    rintro e w2 ⟨rfl, rfl⟩
    go_wp2
    go_ret
    exact ⟨rfl, hb1⟩
end Go.Proofs.YtnjhbikppfgccaaDoor.cw
