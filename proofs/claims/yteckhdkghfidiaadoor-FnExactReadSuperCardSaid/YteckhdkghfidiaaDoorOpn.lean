/-
  Contracts of the program's unsealed and sealedNumbers, and of the model's l02Open: texts whose sum is right.
  Conditions: texts of at most 1048576 bytes; the package's errors are known.
-/
import Derived.Test.YteckhdkghfidiaaDoorNms
namespace Go.Proofs.YteckhdkghfidiaaDoor
set_option linter.unusedVariables false
open Go.RowKit

def bodyOf (t : ByteArray) : ByteArray := t.extract 0 (t.size - 3)
theorem bodyOf_size (t : ByteArray) : (bodyOf t).size ≤ t.size := by
  unfold bodyOf; rw [ba_size, Lib.extract_data, ba_size t, List.length_take, List.length_drop]; omega
def sealB (t : ByteArray) : Bool := (sealS (bodyOf t)).toList == t.toList
def opensB (t : ByteArray) : Bool := decide (3 ≤ t.size) && sealB t
/-- The numbers of a text with a sum, if it is one. -/
def rdN (t : ByteArray) : Option (List Nat) := if opensB t then numsO (bodyOf t).data.toList else none
theorem opensB_short {t : ByteArray} (h : t.size < 3) : opensB t = false := by unfold opensB; rw [decide_eq_false (by omega)]; rfl
theorem opensB_of {t : ByteArray} (h : 3 ≤ t.size) : opensB t = sealB t := by unfold opensB; rw [decide_eq_true h]; rfl
theorem rdN_no {t : ByteArray} (h : opensB t = false) : rdN t = none := by unfold rdN; rw [h]; rfl
theorem rdN_yes {t : ByteArray} (h : opensB t = true) : rdN t = numsO (bodyOf t).data.toList := by unfold rdN; rw [h]; rfl
theorem rdN_all {t : ByteArray} {ns : List Nat} (h : rdN t = some ns) : All6 ns := by
  unfold rdN at h
  cases ho : opensB t with
  | true => rw [ho] at h; exact numsO_all h
  | false => rw [ho] at h; cases h
theorem l02Seal_s (s : ByteArray) (w : World) (hs : s.size ≤ 1048576) : Calls Tryd.prog 36 #[.string s] w fun e w' => e = .returned (.string (sealS s)) ∧ Nx w w' := l02Seal_c s w hs

def RetO (w : World) (t : ByteArray) (e : Ending) (w' : World) : Prop :=
  ∃ x : ByteArray, e = .returned (.tuple #[.string x, .bool (opensB t)]) ∧ x.size ≤ t.size ∧ (opensB t = true → x = bodyOf t) ∧ Nx w w'
set_option maxHeartbeats 1000000 in
theorem l02Open_c (t : ByteArray) (w : World) (ht : t.size ≤ 1048576) : Calls Tryd.prog 48 #[.string t] w (RetO w t) := by
  by_cases h3 : t.size < 3
  · have hd : decide ((t.size : Int) < 3) = true := by simp; omega
    have HO := Lib.hid (opensB_short h3)
    go_enter Tryd.func48, Tryd.ntmps48
    go_wp2
    go_ret2
    unfold RetO
    rw [HO.out]
    exact ⟨⟨#[]⟩, rfl, Nat.zero_le _, (fun h => by cases h), Nx.refl _⟩
  · have hd : decide ((t.size : Int) < 3) = false := by simp; omega
    have HO := Lib.hid (opensB_of (t := t) (by omega))
    have hb1 : 0 ≤ (t.size : Int) - 3 := by omega
    have hb2 : (t.size : Int) - 3 ≤ (t.size : Int) := by omega
    have hb3 : ((t.size : Int) - 3).toNat = t.size - 3 := by omega
    go_enter Tryd.func48, Tryd.ntmps48
    go_wp2_with fail
    refine (l02Seal_s (bodyOf t) _ (Nat.le_trans (bodyOf_size t) ht)).mono ?_
    rintro e w1 ⟨rfl, hnx1⟩
    obtain ⟨b, Hb⟩ : ∃ b, Hid (sealB t = b) := ⟨_, rfl⟩
    have hb : ((sealS (bodyOf t)).toList == t.toList) = b := Hb.out
    go_wp2
    go_ret2
    refine ⟨bodyOf t, ?_, bodyOf_size t, fun _ => rfl, hnx1⟩
    rw [HO.out, Hb.out]
    rfl

/-- What is answered of a text that is too long. -/
def RetUn (w : World) (t : ByteArray) (a0 : Addr) (e : Ending) (w' : World) : Prop :=
  Nx w w' ∧ (opensB t = false → e = .returned (.tuple #[.string ⟨#[]⟩, .iface 150 (.pointer (some a0))])) ∧ (opensB t = true → e = .returned (.tuple #[.string (bodyOf t), .nilIface]))
set_option maxRecDepth 100000 in
set_option maxHeartbeats 1000000 in
theorem unsealed_c (t : ByteArray) (w : World) (a0 a1 : Addr) (ht : t.size ≤ 65536) (hE : Er w a0 a1) : Calls Tryd.prog 52 #[.string t] w (RetUn w t a0) := by
  have hd0 : decide (65536 < (t.size : Int)) = false := by simp; omega
  by_cases h3 : t.size < 3
  · have hd : decide ((t.size : Int) < 3) = true := by simp; omega
    have HO := Lib.hid (opensB_short h3)
    obtain ⟨c0, _⟩ := hE
    go_enter Tryd.func52, Tryd.ntmps52
    go_wp2
    go_quiet (fail)
    go_wp2
    go_ret2
    exact ⟨(Nx.refl _).drewN _, fun _ => rfl, fun h => by rw [HO.out] at h; cases h⟩
  · have hd : decide ((t.size : Int) < 3) = false := by simp; omega
    have HO := Lib.hid (opensB_of (t := t) (by omega))
    have hb1 : 0 ≤ (t.size : Int) - 3 := by omega
    have hb2 : (t.size : Int) - 3 ≤ (t.size : Int) := by omega
    have hb3 : ((t.size : Int) - 3).toNat = t.size - 3 := by omega
    cases hb : sealB t with
    | false =>
      have HB := Lib.hid hb
      clear hb
      go_enter Tryd.func52, Tryd.ntmps52
      go_wp2_with fail
      refine (sealed_c (bodyOf t) _ (Nat.le_trans (bodyOf_size t) ht)).mono ?_
      rintro e w1 ⟨rfl, hnx1⟩
      have hb : ((sealS (bodyOf t)).toList == t.toList) = false := HB.out
      have hb' : ((sealS (bodyOf t)).toList != t.toList) = true := by rw [bne, hb]; rfl
      obtain ⟨c0, _⟩ := hE.nx hnx1
      go_wp2
      go_quiet (fail)
      go_wp2
      go_ret2
      exact ⟨hnx1.drewN _, fun _ => rfl, fun h => by rw [HO.out, HB.out] at h; cases h⟩
    | true =>
      have HB := Lib.hid hb
      clear hb
      go_enter Tryd.func52, Tryd.ntmps52
      go_wp2_with fail
      refine (sealed_c (bodyOf t) _ (Nat.le_trans (bodyOf_size t) ht)).mono ?_
      rintro e w1 ⟨rfl, hnx1⟩
      have hb : ((sealS (bodyOf t)).toList == t.toList) = true := HB.out
      have hb' : ((sealS (bodyOf t)).toList != t.toList) = false := by rw [bne, hb]; rfl
      go_wp2
      go_ret2
      exact ⟨hnx1, (fun h => by rw [HO.out, HB.out] at h; cases h), fun _ => rfl⟩
set_option maxRecDepth 100000 in
set_option maxHeartbeats 1000000 in
theorem unsealedLong_c (t : ByteArray) (w : World) (a0 a1 : Addr) (ht : 65536 < t.size) (hE : Er w a0 a1) :
    Calls Tryd.prog 52 #[.string t] w fun e w' => e = .returned (.tuple #[.string ⟨#[]⟩, .iface 150 (.pointer (some a1))]) ∧ Nx w w' := by
  have hd0 : decide (65536 < (t.size : Int)) = true := by simp; omega
  obtain ⟨_, c1, _⟩ := hE
  go_enter Tryd.func52, Tryd.ntmps52
  go_wp2
  go_quiet (fail)
  go_wp2
  go_ret2
  exact ⟨rfl, (Nx.refl _).drewN _⟩

end Go.Proofs.YteckhdkghfidiaaDoor
