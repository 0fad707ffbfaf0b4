/-
  Contracts of the model's l02Six, l02Seal and l02Join: numbers' six digits, the sum's three behind a text, many numbers.
  Conditions: the numbers are from 0 to 999999.
-/
import Derived.Test.YteckhdkghfidiaaDoorDig
import Derived.Test.YteckhdkghfidiaaDoorSum
import Derived.Lib.Strings
namespace Go.Proofs.YteckhdkghfidiaaDoor
set_option linter.unusedVariables false
open Go.RowKit

def sizeOfStr : Value → Nat | .string s => s.size | _ => 0
theorem ba_eq {s : ByteArray} {l : List UInt8} (h : s.data.toList = l) : s = ⟨l.toArray⟩ := by
  subst h; cases s; simp
theorem ba_app (s t : ByteArray) : (s ++ t).data.toList = s.data.toList ++ t.data.toList := by
  cases s; cases t; rw [ByteArray.mk_append_mk]
theorem ba_size (s : ByteArray) : s.size = s.data.toList.length := by rw [Array.length_toList]; rfl

theorem six_less {s t : ByteArray} (h : s.size < 6) (ht : 0 < t.size := by decide) : 6 - sizeOfStr (.string (t ++ s)) < 6 - sizeOfStr (.string s) := by
  show 6 - (t ++ s).size < 6 - s.size
  rw [ByteArray.size_append]
  omega
set_option maxHeartbeats 1000000 in
/-- A number's six digits, as the model tells them. -/
theorem l02Six_c (n : Nat) (w : World) (hn : n ≤ 999999) : Calls Tryd.prog 59 #[.int .i64 n] w fun e w' => e = .returned (.string ⟨(pad 6 n).toArray⟩) ∧ Nx w w' := by
  obtain ⟨hl, he⟩ := digs_pad 5 n (by omega)
  obtain ⟨hl1, _⟩ := digs_len hn
  have HE := Lib.hid he
  clear he
  go_enter Tryd.func59, Tryd.ntmps59
  go_wp2_with fail
  refine (l00Digits_c n _ hn).mono ?_
  rintro e w1 ⟨rfl, hnx1⟩
  obtain ⟨s0, Hs0⟩ : ∃ s : ByteArray, Hid ((⟨(digs n).toArray⟩ : ByteArray) = s) := ⟨_, rfl⟩
  rw [Hs0.out]
  go_wp2
  go_loop [3] (fun v => ∃ (s : ByteArray) (k : Nat), v = .string s ∧ k + (digs n).length ≤ 6 ∧ s.size ≤ 6 ∧ Hid (s.data.toList = List.replicate k 48 ++ digs n)) (fun v => 6 - sizeOfStr v)
  case atStart =>
    refine ⟨s0, 0, rfl, by omega, ?_, Lib.hid ?_⟩
    · rw [← Hs0.out]; simpa [ByteArray.size] using hl
    · rw [← Hs0.out]; simp
  case round =>
    obtain ⟨s, k, rfl, hk, hs6, HS⟩ := hrel
    have hsz : s.size = k + (digs n).length := by rw [ba_size, HS.out]; simp
    by_cases hlt : s.size < 6
    · have hd : decide ((s.size : Int) < 6) = true := by simp; omega
      have Hsz := Lib.hid hsz
      clear hsz
      go_wp2
      go_round
      case rel =>
        refine ⟨_, k + 1, rfl, by have := Hsz.out; omega, ?_, Lib.hid ?_⟩
        · rw [ba_size, ba_app]; simp; have := ba_size s; simp at this; omega
        · rw [ba_app, HS.out]; simp [List.replicate_succ]
      case measure => exact six_less hlt
    · have hd : decide ((s.size : Int) < 6) = false := by simp; omega
      have hk6 : k = 6 - (digs n).length := by omega
      have HK := Lib.hid hk6
      clear hsz hk6
      go_wp2
      go_ret
      refine ⟨ret_str (ba_eq ?_), hnx1⟩
      rw [HS.out, HK.out, HE.out]

/-- The sum's three digits. -/
def sumD (s : ByteArray) : List UInt8 := pad 3 (sumS s).toNat
theorem pad_drop (j k n : Nat) : (pad (k + j) n).drop k = pad j n ∧ True := by
  induction j generalizing n with
  | zero => refine ⟨?_, trivial⟩; show (pad k n).drop k = []; rw [List.drop_of_length_le (by rw [pad_len]; omega)]
  | succ j ih =>
    refine ⟨?_, trivial⟩
    show (pad (k + j) (n / 10) ++ [_]).drop k = pad j (n / 10) ++ [_]
    rw [List.drop_append_of_le_length (by rw [pad_len]; omega), (ih (n / 10)).1]
set_option maxHeartbeats 1000000 in
/-- A text and its sum behind, as the model tells it. -/
theorem l02Seal_c (s : ByteArray) (w : World) (hs : s.size ≤ 1048576) : Calls Tryd.prog 36 #[.string s] w fun e w' => e = .returned (.string (s ++ ⟨(sumD s).toArray⟩)) ∧ Nx w w' := by
  obtain ⟨h0, h1⟩ := sumL_bd s.data.toList
  obtain ⟨q, hq⟩ : ∃ q : Nat, sumS s = (q : Int) := ⟨(sumS s).toNat, by have : 0 ≤ sumS s := h0; omega⟩
  have hq6 : q ≤ 996 := by have : sumS s ≤ 996 := h1; omega
  have HD := Lib.hid (show sumD s = pad 3 q by unfold sumD; rw [hq]; rfl)
  have HQ := Lib.hid hq
  clear hq
  go_enter Tryd.func36, Tryd.ntmps36
  go_wp2_with fail
  refine (l02Sum_c s _ (by unfold maxLen; omega)).mono ?_
  rintro e w1 ⟨rfl, rfl⟩
  rw [HQ.out]
  go_wp2_with fail
  refine (l02Six_c q _ (by omega)).mono ?_
  rintro e w1 ⟨rfl, hnx1⟩
  obtain ⟨d, Hd⟩ : ∃ d : ByteArray, Hid ((⟨(pad 6 q).toArray⟩ : ByteArray) = d) := ⟨_, rfl⟩
  have hd6 : d.size = 6 := by rw [← Hd.out]; simp [ByteArray.size, pad_len]
  rw [Hd.out]
  have hd7 : 3 ≤ d.size := by omega
  have hd8 : d.size ≤ 6 := by omega
  have Hd6 := Lib.hid hd6
  clear hd6
  go_wp2
  go_ret
  refine ⟨ret_str ?_, hnx1⟩
  congr 1
  refine ba_eq ?_
  rw [Lib.extract_data, Hd6.out, HD.out, ← Hd.out]
  have h6 := (pad_drop 3 3 q).1
  simpa [List.take_of_length_le, pad_len] using h6

/-- Many numbers' digits. -/
def padAll (ns : List Nat) : List UInt8 := ns.flatMap (pad 6)
theorem padAll_len (ns : List Nat) : (padAll ns).length = ns.length * 6 := by
  unfold padAll
  induction ns with
  | nil => rfl
  | cons a l ih => simp [pad_len, ih]; omega
def intAt (ns : List Nat) (i : Nat) : Value := .int .i64 (ns.getD i 0 : Nat)
def All6 (ns : List Nat) : Prop := ∀ k, k < ns.length → ns.getD k 0 ≤ 999999
def padTo (ns : List Nat) (k : Nat) : List UInt8 := padAll (ns.take k)
theorem padTo_len (ns : List Nat) (k : Nat) (h : k ≤ ns.length) : (padTo ns k).length = k * 6 := by
  unfold padTo; rw [padAll_len, List.length_take, Nat.min_eq_left h]
theorem padTo_succ (ns : List Nat) (k : Nat) (h : k < ns.length) : padTo ns (k + 1) = padTo ns k ++ pad 6 (ns.getD k 0) := by
  unfold padTo padAll
  rw [List.take_succ_eq_append_getElem h, List.flatMap_append, List.getD_eq_getElem?_getD, List.getElem?_eq_getElem h]; simp
theorem padTo_all (ns : List Nat) : padTo ns ns.length = padAll ns := by unfold padTo; rw [List.take_length]
set_option maxHeartbeats 1000000 in
/-- Many numbers, as the model tells them. -/
theorem l02Join_c (A : Option Addr) (c B : Nat) (ns : List Nat) (w : World) (h : Row w B A ns.length (intAt ns)) (hB : B ≤ w.heap.size) (h6 : All6 ns) (hn : ns.length ≤ 1000) :
    Calls Tryd.prog 37 #[.slice A ns.length c] w fun e w' => e = .returned (.string ⟨(padAll ns).toArray⟩) ∧ Nx w w' := by
  go_enter Tryd.func37, Tryd.ntmps37
  go_wp2
  go_loopw [3, 4] (fun v i wr => ∃ (k : Nat) (s : ByteArray), k ≤ ns.length ∧ i = .int .i64 k ∧ v = .string s ∧ s.size ≤ 6000 ∧ Hid (s.data.toList = padTo ns k) ∧ Nx w wr) (fun _ i _ => ns.length - (intOf i).toNat)
  case atStart => exact ⟨0, ⟨#[]⟩, Nat.zero_le _, rfl, rfl, by decide, Lib.hid rfl, Nx.refl _⟩
  case round =>
    obtain ⟨k, s, hk, rfl, rfl, hs, HS, hnx⟩ := hrel
    by_cases hlt : k < ns.length
    · obtain ⟨b, off, rfl, hb, hc0⟩ := (h.below hnx hB) (by omega)
      have hc := hc0 k hlt
      have hn6 := h6 k hlt
      have HP := Lib.hid (padTo_succ ns k hlt)
      have HL := Lib.hid (padTo_len ns k hk)
      clear hc0
      unfold intAt at hc
      obtain ⟨x, Hx⟩ : ∃ x, Hid (ns.getD k 0 = x) := ⟨_, rfl⟩
      rw [Hx.out] at hc hn6 HP
      go_wp2_with fail
      refine (l02Six_c x _ hn6).mono ?_
      rintro e w1 ⟨rfl, hnx1⟩
      obtain ⟨d, Hd⟩ : ∃ d : ByteArray, Hid ((⟨(pad 6 x).toArray⟩ : ByteArray) = d) := ⟨_, rfl⟩
      have hd6 : d.size ≤ 6 := by rw [← Hd.out]; simp [ByteArray.size, pad_len]
      rw [Hd.out]
      go_wp2
      go_roundw
      case rel =>
        have hds : d.data.toList = pad 6 x := by rw [← Hd.out]
        have hsz : (s ++ d).data.toList = padTo ns (k + 1) := by rw [ba_app, HS.out, HP.out, hds]
        exact ⟨k + 1, _, by omega, by go_num, rfl, by rw [ba_size, hsz, padTo_len _ _ (by omega)]; omega, Lib.hid hsz, hnx.trans hnx1⟩
      case measure => simp [intOf]; omega
    · obtain rfl : k = ns.length := by omega
      go_wp2
      go_ret
      exact ⟨ret_str (ba_eq (by rw [HS.out, padTo_all])), hnx⟩
end Go.Proofs.YteckhdkghfidiaaDoor
