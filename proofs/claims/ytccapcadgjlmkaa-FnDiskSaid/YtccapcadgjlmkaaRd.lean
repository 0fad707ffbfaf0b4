/-
  Contracts of ReadSector, as the model and as the program have it: both answer the newest write of a sector.
  Conditions: the disk can be read, and holds at most 1048576 elements of a kind.
-/
import Derived.Test.YtccapcadgjlmkaaBase
import Derived.Test.YtccapcadgjlmkaaDok
namespace Go.Proofs.Ytccapcadgjlmkaa
set_option linter.unusedVariables false
open Go.RowKit

theorem ret_str {a b : ByteArray} (h : a = b) : Ending.returned (.string a) = .returned (.string b) := by rw [h]
def findLast (ws : List (Int × ByteArray)) (a : Nat) : Nat → Option ByteArray
  | 0 => none
  | k + 1 => if ((ws.getD k (0, ByteArray.empty)).1 == (a : Int)) = true then some (ws.getD k (0, ByteArray.empty)).2 else findLast ws a k
/-- What a sector holds: the newest write there, else what is sure. -/
def readP (ss : List ByteArray) (ws : List (Int × ByteArray)) (a : Nat) : ByteArray := (findLast ws a ws.length).getD (ss.getD a ByteArray.empty)
def LastTo (ws : List (Int × ByteArray)) (a k : Nat) : Prop := findLast ws a ws.length = findLast ws a k
theorem LastTo.start {ws : List (Int × ByteArray)} {a n : Nat} (h : ws.length = n) : LastTo ws a n := by unfold LastTo; rw [h]
theorem LastTo.none_ {ss : List ByteArray} {ws : List (Int × ByteArray)} {a : Nat} (h : LastTo ws a 0) : ss.getD a ByteArray.empty = readP ss ws a := by
  unfold readP; rw [h]; rfl
theorem LastTo.found {ss : List ByteArray} {ws : List (Int × ByteArray)} {a k : Nat} {x : Int} {s : ByteArray} (h : LastTo ws a (k + 1)) (hx : ws.getD k (0, ByteArray.empty) = (x, s)) (he : (x == (a : Int)) = true) : s = readP ss ws a := by
  unfold readP; rw [h, findLast, hx]; simp only [he, if_true, Option.getD_some]
theorem LastTo.next_ {ws : List (Int × ByteArray)} {a k : Nat} {x : Int} {s : ByteArray} (h : LastTo ws a (k + 1)) (hx : ws.getD k (0, ByteArray.empty) = (x, s)) (he : (x == (a : Int)) = false) : LastTo ws a k := by
  unfold LastTo at h ⊢; rw [h, findLast, hx]; simp [he]
/-- The answer of ReadSector: a text and a code. -/
def rdP (ss : List ByteArray) (ws : List (Int × ByteArray)) (a : Int) : ByteArray × Int :=
  if diskB ss ws = true then (if secB a = true then (readP ss ws a.toNat, 0) else (⟨#[]⟩, 4)) else (⟨#[]⟩, 1)
theorem rdP_bad {ss : List ByteArray} {ws : List (Int × ByteArray)} {a : Int} (h : diskB ss ws = false) : rdP ss ws a = (⟨#[]⟩, 1) := by unfold rdP; rw [h]; rfl
theorem rdP_range {ss : List ByteArray} {ws : List (Int × ByteArray)} {a : Int} (h : diskB ss ws = true) (ha : secB a = false) : rdP ss ws a = (⟨#[]⟩, 4) := by unfold rdP; rw [h, ha]; rfl
theorem rdP_ok {ss : List ByteArray} {ws : List (Int × ByteArray)} {a : Nat} (h : diskB ss ws = true) (ha : secB a = true) : rdP ss ws a = (readP ss ws a, 0) := by unfold rdP; rw [h, ha]; rfl

set_option maxRecDepth 100000 in
set_option maxHeartbeats 1000000 in
theorem newest_c (A A2 : Option Addr) (n c n2 c2 B a : Nat) (ss : List ByteArray) (ws : List (Int × ByteArray)) (w : World) (h : Strs w B A n ss) (h2 : Wrs w B A2 n2 ws) (hB : B ≤ w.heap.size) (ha : a < n) (hn : n ≤ 1048576) (hn2 : n2 ≤ 1048576) :
    Calls Try.prog 48 #[.agg #[.slice A n c, .slice A2 n2 c2], .int .i64 a] w fun e w' => e = .returned (.string (readP ss ws a)) ∧ Nx w w' := by
  have HL := Lib.hid h2.1
  go_enter Try.func48, Try.ntmps48
  go_wp2
  go_loop [5] (fun i => ∃ k : Nat, k ≤ n2 ∧ i = .int .i64 ((k : Int) - 1) ∧ LastTo ws a k) (fun i => (intOf i + 1).toNat)
  case atStart => exact ⟨n2, Nat.le_refl _, rfl, LastTo.start HL.out⟩
  case round =>
    obtain ⟨k, hk, rfl, hto⟩ := hrel
    rcases Nat.eq_zero_or_pos k with hz | hpos
    · subst hz
      obtain ⟨b, off, rfl, hb, hc⟩ := (h.below ((Nx.refl w).alloc (.cells #[.slice A n c, .slice A2 n2 c2] 26)) hB).at_ ha
      have HF := Lib.hid (hto.none_ (ss := ss))
      generalize ss.getD a ByteArray.empty = s at hc HF
      go_wp2
      go_ret
      exact ⟨ret_str HF.out, (Nx.refl _).alloc _⟩
    · obtain ⟨j, rfl⟩ : ∃ j, k = j + 1 := ⟨k - 1, by omega⟩
      have ej : (((j + 1 : Nat) : Int) - 1) = (j : Int) := by omega
      rw [ej]
      obtain ⟨b, off, rfl, hb, hc, hd⟩ := (h2.below ((Nx.refl w).alloc (.cells #[.slice A n c, .slice A2 n2 c2] 26)) hB).at_ (k := j) (by omega)
      obtain ⟨⟨x, s⟩, Hs⟩ : ∃ s, Hid (ws.getD j (0, ByteArray.empty) = s) := ⟨_, rfl⟩
      rw [Hs.out] at hc hd
      clear ej
      cases hx : (x == (a : Int)) with
      | true =>
        have HF := Lib.hid (hto.found (ss := ss) Hs.out hx)
        go_wp2
        go_ret
        exact ⟨ret_str HF.out, (Nx.refl _).alloc _⟩
      | false =>
        have HF := Lib.hid (hto.next_ Hs.out hx)
        go_wp2
        go_round
        case rel => exact ⟨j, by omega, rfl, HF.out⟩
        case measure => simp [intOf]

set_option maxRecDepth 100000 in
set_option maxHeartbeats 1000000 in
theorem implReadSector_c (A A2 : Option Addr) (n c n2 c2 B : Nat) (a : Int) (ss : List ByteArray) (ws : List (Int × ByteArray)) (w : World) (h : Strs w B A n ss) (h2 : Wrs w B A2 n2 ws) (hB : B ≤ w.heap.size) (hn : n ≤ 1048576) (hn2 : n2 ≤ 1048576) :
    Calls Try.prog 12 #[.agg #[.slice A n c, .slice A2 n2 c2], .int .i64 a] w fun e w' => e = .returned (.tuple #[.string (rdP ss ws a).1, .int .i64 (rdP ss ws a).2]) ∧ Nx w w' := by
  cases hok : diskB ss ws with
  | false =>
    have HO := Lib.hid hok
    have HF := Lib.hid (rdP_bad (a := a) hok)
    clear hok
    go_enter Try.func12, Try.ntmps12
    go_wp2_with fail
    refine (isRight_c A A2 n c n2 c2 B ss ws _ (h.below ((Nx.refl w).alloc _) hB) (h2.below ((Nx.refl w).alloc _) hB) (Nat.le_trans hB (by simp)) hn hn2).mono ?_
    rintro e w1 ⟨rfl, hnx⟩
    rw [HO.out]
    go_wp2
    go_ret2
    rw [HF.out]
    exact ⟨rfl, ((Nx.refl _).alloc _).trans hnx⟩
  | true =>
    have HO := Lib.hid hok
    have hl64 : 64 = n := by have := (diskB_len64 hok).1; rw [h.1] at this; exact this.symm
    subst hl64
    cases hsec : secB a with
    | false =>
      have HS := Lib.hid hsec
      have HF := Lib.hid (rdP_range hok hsec)
      clear hok hsec
      go_enter Try.func12, Try.ntmps12
      go_wp2_with fail
      refine (isRight_c A A2 64 c n2 c2 B ss ws _ (h.below ((Nx.refl w).alloc _) hB) (h2.below ((Nx.refl w).alloc _) hB) (Nat.le_trans hB (by simp)) hn hn2).mono ?_
      rintro e w1 ⟨rfl, hnx⟩
      rw [HO.out]
      go_wp2_with fail
      refine (isSector_c _ _).mono ?_
      rintro e w2 ⟨rfl, rfl⟩
      rw [HS.out]
      go_wp2
      go_ret2
      rw [HF.out]
      exact ⟨rfl, ((Nx.refl _).alloc _).trans hnx⟩
    | true =>
      have HS := Lib.hid hsec
      obtain ⟨k, rfl, hk⟩ : ∃ k : Nat, a = k ∧ k < 64 := by
        unfold secB at hsec
        simp only [Bool.and_eq_true, decide_eq_true_eq] at hsec
        exact ⟨a.toNat, by omega, by omega⟩
      have HF := Lib.hid (rdP_ok hok hsec)
      clear hok hsec
      go_enter Try.func12, Try.ntmps12
      go_wp2_with fail
      have b0 := Box.new w 26 #[.slice A 64 c, .slice A2 n2 c2]
      have hnx0 := (Nx.refl w).alloc (.cells #[.slice A 64 c, .slice A2 n2 c2] 26)
      generalize w.alloc (.cells #[.slice A 64 c, .slice A2 n2 c2] 26) = W at *
      refine (isRight_c A A2 64 c n2 c2 B ss ws _ (h.below hnx0 hB) (h2.below hnx0 hB) (Nat.le_trans hB hnx0.size) hn hn2).mono ?_
      rintro e w1 ⟨rfl, hnx1⟩
      rw [HO.out]
      have hx1 := hnx0.trans hnx1
      have c0 := (b0.nx hnx1).c0
      have c1 := (b0.nx hnx1).c1
      go_wp2_with fail
      refine (isSector_c _ _).mono ?_
      rintro e w2 ⟨rfl, rfl⟩
      rw [HS.out]
      go_wp2_with fail
      refine (newest_c A A2 64 c n2 c2 B k ss ws _ (h.below hx1 hB) (h2.below hx1 hB) (Nat.le_trans hB hx1.size) hk hn hn2).mono ?_
      rintro e w3 ⟨rfl, hnx3⟩
      go_wp2
      go_ret2
      rw [HF.out]
      exact ⟨rfl, hx1.trans hnx3⟩
end Go.Proofs.Ytccapcadgjlmkaa
