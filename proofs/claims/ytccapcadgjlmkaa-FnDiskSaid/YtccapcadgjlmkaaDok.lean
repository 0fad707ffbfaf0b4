/-
  Contracts of DiskOK, as the model and as the program have it: both answer the same bool of what the disk holds.
  Conditions: the disk can be read, and holds at most 1048576 elements of a kind.
-/
import Derived.Test.YtccapcadgjlmkaaBase
import Derived.Outline
namespace Go.Proofs.Ytccapcadgjlmkaa
set_option linter.unusedVariables false
open Go.RowKit

def secB (a : Int) : Bool := decide (0 ≤ a) && decide (a ≤ 63)
def sOk (s : ByteArray) : Bool := decide (s.size ≤ 300)
def wOk (x : Int × ByteArray) : Bool := secB x.1 && sOk x.2
def diskB (ss : List ByteArray) (ws : List (Int × ByteArray)) : Bool := (ss.length == 64) && decide (ws.length ≤ 80) && ss.all sOk && ws.all wOk

/-- The first k elements of a list pass. -/
def AllTo {α : Type} (p : α → Bool) (l : List α) (k : Nat) : Prop := (l.take k).all p = true
theorem AllTo.zero {α : Type} (p : α → Bool) (l : List α) : AllTo p l 0 := by simp [AllTo]
theorem AllTo.succ {α : Type} {p : α → Bool} {l : List α} {k : Nat} {d x : α} (h : AllTo p l k) (hk : k < l.length) (hx : l.getD k d = x) (hp : p x = true) : AllTo p l (k + 1) := by
  unfold AllTo at h ⊢
  rw [List.take_succ_eq_append_getElem hk, List.all_append, h]
  have : l[k] = x := by rw [← hx, List.getD_eq_getElem?_getD, List.getElem?_eq_getElem hk]; rfl
  simp [this, hp]
theorem AllTo.all {α : Type} {p : α → Bool} {l : List α} {k : Nat} (h : AllTo p l k) (hk : l.length = k) : l.all p = true := by
  unfold AllTo at h
  rwa [List.take_of_length_le (by omega)] at h
theorem all_no {α : Type} {p : α → Bool} {l : List α} {k : Nat} {d x : α} (hk : k < l.length) (hx : l.getD k d = x) (hp : p x = false) : l.all p = false := by
  rw [List.all_eq_false]
  refine ⟨l[k], List.getElem_mem hk, ?_⟩
  have : l[k] = x := by rw [← hx, List.getD_eq_getElem?_getD, List.getElem?_eq_getElem hk]; rfl
  rw [this, hp]; simp
theorem diskB_len {ss : List ByteArray} {ws : List (Int × ByteArray)} (h : ss.length ≠ 64 ∨ 80 < ws.length) : false = diskB ss ws := by
  unfold diskB
  rcases h with h | h
  · rw [beq_eq_false_iff_ne.2 h]; rfl
  · rw [decide_eq_false (p := ws.length ≤ 80) (by omega)]; simp
theorem diskB_s {ss : List ByteArray} {ws : List (Int × ByteArray)} (h : ss.all sOk = false) : false = diskB ss ws := by
  unfold diskB; rw [h]; simp
theorem diskB_w {ss : List ByteArray} {ws : List (Int × ByteArray)} (h : ws.all wOk = false) : false = diskB ss ws := by
  unfold diskB; rw [h]; simp
theorem diskB_yes {ss : List ByteArray} {ws : List (Int × ByteArray)} (h1 : ss.length = 64) (h2 : ws.length ≤ 80) (h3 : ss.all sOk = true) (h4 : ws.all wOk = true) : true = diskB ss ws := by
  unfold diskB; rw [h3, h4, h1]; simp [h2]
theorem diskB_len64 {ss : List ByteArray} {ws : List (Int × ByteArray)} (h : diskB ss ws = true) : ss.length = 64 ∧ ws.length ≤ 80 ∧ ss.all sOk = true ∧ ws.all wOk = true := by
  unfold diskB at h
  simp only [Bool.and_eq_true, beq_iff_eq, decide_eq_true_eq] at h
  exact ⟨h.1.1.1, h.1.1.2, h.1.2, h.2⟩

set_option maxHeartbeats 1000000 in
theorem l01In_c (a lo hi : Int) (w : World) : Calls Try.prog 73 #[.int .i64 a, .int .i64 lo, .int .i64 hi] w fun e w' => e = .returned (.bool (decide (lo ≤ a) && decide (a ≤ hi))) ∧ w = w' := by
  go_enter Try.func73, Try.ntmps73
  go_wp2
  all_goals (go_ret; refine ⟨ret_bool ?_, rfl⟩; rw [Bool.eq_iff_iff]; simp; try omega)

set_option maxHeartbeats 1000000 in
theorem specDiskOK_c (A A2 : Option Addr) (n c n2 c2 B : Nat) (ss : List ByteArray) (ws : List (Int × ByteArray)) (w : World) (h : Strs w B A n ss) (h2 : Wrs w B A2 n2 ws) (hB : B ≤ w.heap.size) (hn : n ≤ 1048576) (hn2 : n2 ≤ 1048576) :
    Calls Try.prog 52 #[.agg #[.slice A n c, .slice A2 n2 c2]] w fun e w' => e = .returned (.bool (diskB ss ws)) ∧ Nx w w' := by
  by_cases hl : n = 64
  case neg =>
    have h0 : ((n : Int) != 64) = true := by rw [bne_iff_ne]; omega
    have HF := Lib.hid (diskB_len (ss := ss) (ws := ws) (.inl (by rw [h.1]; exact hl)))
    go_enter Try.func52, Try.ntmps52
    go_wp2
    go_ret
    exact ⟨ret_bool HF.out, (Nx.refl _).alloc _⟩
  subst hl
  by_cases hl2 : n2 ≤ 80
  case neg =>
    have h0 : decide (80 < (n2 : Int)) = true := by simp; omega
    have HF := Lib.hid (diskB_len (ss := ss) (ws := ws) (.inr (by rw [h2.1]; omega)))
    go_enter Try.func52, Try.ntmps52
    go_wp2
    go_ret
    exact ⟨ret_bool HF.out, (Nx.refl _).alloc _⟩
  have h0 : decide (80 < (n2 : Int)) = false := by simp; omega
  go_enter Try.func52, Try.ntmps52
  go_wp2
  go_loop [3] (fun i => ∃ k : Nat, k ≤ 64 ∧ i = .int .i64 k ∧ AllTo sOk ss k) (fun i => 64 - (intOf i).toNat)
  case atStart => exact ⟨0, Nat.zero_le _, rfl, AllTo.zero _ _⟩
  case round =>
    obtain ⟨k, hk, rfl, hto⟩ := hrel
    by_cases hlt : k < 64
    · obtain ⟨b, off, rfl, hb, hc⟩ := (h.below ((Nx.refl w).alloc (.cells #[.slice A 64 c, .slice A2 n2 c2] 26)) hB).at_ hlt
      obtain ⟨s, Hs⟩ : ∃ s, Hid (ss.getD k ByteArray.empty = s) := ⟨_, rfl⟩
      rw [Hs.out] at hc
      have hkl : k < ss.length := by rw [h.1]; exact hlt
      by_cases hs : s.size ≤ 300
      · have h3 : decide (300 < (s.size : Int)) = false := by simp; omega
        go_wp2
        go_round
        case rel => exact ⟨k + 1, by omega, by go_num, hto.succ hkl Hs.out (by simp [sOk, hs])⟩
        case measure => simp [intOf]; omega
      · have h3 : decide (300 < (s.size : Int)) = true := by simp; omega
        have HF := Lib.hid (diskB_s (ws := ws) (all_no hkl Hs.out (p := sOk) (by simp [sOk]; omega)))
        go_wp2
        go_ret
        exact ⟨ret_bool HF.out, (Nx.refl _).alloc _⟩
    · obtain rfl : k = 64 := by omega
      have hall := Lib.hid (hto.all h.1)
      clear hto
      go_wp2
      go_loop [4] (fun i => ∃ k : Nat, k ≤ n2 ∧ i = .int .i64 k ∧ AllTo wOk ws k) (fun i => n2 - (intOf i).toNat)
      case atStart => exact ⟨0, Nat.zero_le _, rfl, AllTo.zero _ _⟩
      case round =>
        obtain ⟨k, hk, rfl, hto⟩ := hrel
        by_cases hlt : k < n2
        · obtain ⟨b, off, rfl, hb, hc, hd⟩ := (h2.below ((Nx.refl w).alloc (.cells #[.slice A 64 c, .slice A2 n2 c2] 26)) hB).at_ hlt
          obtain ⟨⟨a, s⟩, Hs⟩ : ∃ s, Hid (ws.getD k (0, ByteArray.empty) = s) := ⟨_, rfl⟩
          rw [Hs.out] at hc hd
          have hkl : k < ws.length := by rw [h2.1]; exact hlt
          cases hsec : secB a with
          | false =>
            have HF := Lib.hid (diskB_w (ss := ss) (all_no hkl Hs.out (p := wOk) (by simp [wOk, hsec])))
            have hsec' : (decide (0 ≤ a) && decide (a ≤ 63)) = false := hsec
            have HS := Lib.hid hsec'
            clear hsec hsec'
            go_wp2_with (go_at_call 73; refine (l01In_c a 0 63 _).mono ?_; rintro e w' ⟨rfl, rfl⟩; rw [HS.out])
            go_ret
            exact ⟨ret_bool HF.out, (Nx.refl _).alloc _⟩
          | true =>
            have hsec' : (decide (0 ≤ a) && decide (a ≤ 63)) = true := hsec
            have HS := Lib.hid hsec'
            have HSec := Lib.hid hsec
            clear hsec hsec'
            by_cases hs : s.size ≤ 300
            · have h3 : decide (300 < (s.size : Int)) = false := by simp; omega
              go_wp2_with (go_at_call 73; refine (l01In_c a 0 63 _).mono ?_; rintro e w' ⟨rfl, rfl⟩; rw [HS.out])
              go_round
              case rel => exact ⟨k + 1, by omega, by go_num, hto.succ hkl Hs.out (by simp [wOk, HSec.out, sOk, hs])⟩
              case measure => simp [intOf]; omega
            · have h3 : decide (300 < (s.size : Int)) = true := by simp; omega
              have HF := Lib.hid (diskB_w (ss := ss) (all_no hkl Hs.out (p := wOk) (by simp [wOk, sOk]; omega)))
              go_wp2_with (go_at_call 73; refine (l01In_c a 0 63 _).mono ?_; rintro e w' ⟨rfl, rfl⟩; rw [HS.out])
              go_ret
              exact ⟨ret_bool HF.out, (Nx.refl _).alloc _⟩
        · obtain rfl : k = n2 := by omega
          have hall2 := Lib.hid (hto.all h2.1)
          go_wp2
          go_ret
          exact ⟨ret_bool (diskB_yes h.1 (by rw [h2.1]; exact hl2) hall.out hall2.out), (Nx.refl _).alloc _⟩

set_option maxHeartbeats 1000000 in
theorem isSector_c (a : Int) (w : World) : Calls Try.prog 45 #[.int .i64 a] w fun e w' => e = .returned (.bool (secB a)) ∧ w = w' := by
  go_enter Try.func45, Try.ntmps45
  go_wp2
  all_goals (go_ret; refine ⟨ret_bool ?_, rfl⟩; unfold secB; rw [Bool.eq_iff_iff]; simp; try omega)

set_option maxHeartbeats 1000000 in
theorem writeRight_c (a : Int) (s : ByteArray) (w : World) : Calls Try.prog 85 #[.agg #[.int .i64 a, .string s]] w fun e w' => e = .returned (.bool (wOk (a, s))) ∧ Nx w w' := by
  cases hsec : secB a with
  | false =>
    have HF := Lib.hid (show false = wOk (a, s) by simp [wOk, hsec])
    have HS := Lib.hid hsec
    clear hsec
    go_enter Try.func85, Try.ntmps85
    go_wp2_with (go_at_call 45; refine (isSector_c a _).mono ?_; rintro e w' ⟨rfl, rfl⟩; rw [HS.out])
    go_ret
    exact ⟨ret_bool HF.out, (Nx.refl _).alloc _⟩
  | true =>
    have HF := Lib.hid (show decide (s.size ≤ 300) = wOk (a, s) by simp [wOk, hsec, sOk])
    have HS := Lib.hid hsec
    clear hsec
    go_enter Try.func85, Try.ntmps85
    go_wp2_with (go_at_call 45; refine (isSector_c a _).mono ?_; rintro e w' ⟨rfl, rfl⟩; rw [HS.out])
    go_ret
    refine ⟨ret_bool ?_, (Nx.refl _).alloc _⟩
    rw [← HF.out, Bool.eq_iff_iff]; simp; try omega

set_option maxHeartbeats 1000000 in
theorem isRight_c (A A2 : Option Addr) (n c n2 c2 B : Nat) (ss : List ByteArray) (ws : List (Int × ByteArray)) (w : World) (h : Strs w B A n ss) (h2 : Wrs w B A2 n2 ws) (hB : B ≤ w.heap.size) (hn : n ≤ 1048576) (hn2 : n2 ≤ 1048576) :
    Calls Try.prog 44 #[.agg #[.slice A n c, .slice A2 n2 c2]] w fun e w' => e = .returned (.bool (diskB ss ws)) ∧ Nx w w' := by
  by_cases hl : n = 64
  case neg =>
    have h0 : ((n : Int) != 64) = true := by rw [bne_iff_ne]; omega
    have HF := Lib.hid (diskB_len (ss := ss) (ws := ws) (.inl (by rw [h.1]; exact hl)))
    go_enter Try.func44, Try.ntmps44
    go_wp2
    go_ret
    exact ⟨ret_bool HF.out, (Nx.refl _).alloc _⟩
  subst hl
  by_cases hl2 : n2 ≤ 80
  case neg =>
    have h0 : decide (80 < (n2 : Int)) = true := by simp; omega
    have HF := Lib.hid (diskB_len (ss := ss) (ws := ws) (.inr (by rw [h2.1]; omega)))
    go_enter Try.func44, Try.ntmps44
    go_wp2
    go_ret
    exact ⟨ret_bool HF.out, (Nx.refl _).alloc _⟩
  have h0 : decide (80 < (n2 : Int)) = false := by simp; omega
  go_enter Try.func44, Try.ntmps44
  go_wp2
  go_loop [20] (fun i => ∃ k : Nat, k ≤ 64 ∧ i = .int .i64 k ∧ AllTo sOk ss k) (fun i => 64 - (intOf i).toNat)
  case atStart => exact ⟨0, Nat.zero_le _, rfl, AllTo.zero _ _⟩
  case round =>
    obtain ⟨k, hk, rfl, hto⟩ := hrel
    by_cases hlt : k < 64
    · obtain ⟨b, off, rfl, hb, hc⟩ := (h.below ((Nx.refl w).alloc (.cells #[.slice A 64 c, .slice A2 n2 c2] 26)) hB).at_ hlt
      obtain ⟨s, Hs⟩ : ∃ s, Hid (ss.getD k ByteArray.empty = s) := ⟨_, rfl⟩
      rw [Hs.out] at hc
      have hkl : k < ss.length := by rw [h.1]; exact hlt
      by_cases hs : s.size ≤ 300
      · have h3 : decide (300 < (s.size : Int)) = false := by simp; omega
        go_wp2
        go_round
        case rel => exact ⟨k + 1, by omega, by go_num, hto.succ hkl Hs.out (by simp [sOk, hs])⟩
        case measure => simp [intOf]; omega
      · have h3 : decide (300 < (s.size : Int)) = true := by simp; omega
        have HF := Lib.hid (diskB_s (ws := ws) (all_no hkl Hs.out (p := sOk) (by simp [sOk]; omega)))
        go_wp2
        go_ret
        exact ⟨ret_bool HF.out, (Nx.refl _).alloc _⟩
    · obtain rfl : k = 64 := by omega
      have hall := Lib.hid (hto.all h.1)
      clear hto
      go_wp2
      go_loopw [31] (fun i wr => ∃ k : Nat, k ≤ n2 ∧ i = .int .i64 k ∧ AllTo wOk ws k ∧ Nx w wr) (fun i _ => n2 - (intOf i).toNat)
      case atStart => exact ⟨0, Nat.zero_le _, rfl, AllTo.zero _ _, (Nx.refl _).alloc _⟩
      case round =>
        obtain ⟨k, hk, rfl, hto, hnx⟩ := hrel
        by_cases hlt : k < n2
        · obtain ⟨b, off, rfl, hb, hc, hd⟩ := (h2.below hnx hB).at_ hlt
          obtain ⟨⟨a, s⟩, Hs⟩ : ∃ s, Hid (ws.getD k (0, ByteArray.empty) = s) := ⟨_, rfl⟩
          rw [Hs.out] at hc hd
          have hkl : k < ws.length := by rw [h2.1]; exact hlt
          cases hok : wOk (a, s) with
          | false =>
            have HF := Lib.hid (diskB_w (ss := ss) (all_no hkl Hs.out (p := wOk) hok))
            have HO := Lib.hid hok
            clear hok
            go_wp2_with fail
            refine (writeRight_c a s _).mono ?_
            rintro e w1 ⟨rfl, hnx1⟩
            rw [HO.out]
            go_wp2
            go_ret
            exact ⟨ret_bool HF.out, (hnx.alloc _).trans hnx1⟩
          | true =>
            have HO := Lib.hid hok
            clear hok
            go_wp2_with fail
            refine (writeRight_c a s _).mono ?_
            rintro e w1 ⟨rfl, hnx1⟩
            rw [HO.out]
            go_wp2
            go_roundw
            case rel => exact ⟨k + 1, by omega, by go_num, hto.succ hkl Hs.out HO.out, (hnx.alloc _).trans hnx1⟩
            case measure => simp [intOf]; omega
        · obtain rfl : k = n2 := by omega
          have hall2 := Lib.hid (hto.all h2.1)
          go_wp2
          go_ret
          exact ⟨ret_bool (diskB_yes h.1 (by rw [h2.1]; exact hl2) hall.out hall2.out), hnx⟩

set_option maxHeartbeats 1000000 in
theorem implDiskOK_c (A A2 : Option Addr) (n c n2 c2 B : Nat) (ss : List ByteArray) (ws : List (Int × ByteArray)) (w : World) (h : Strs w B A n ss) (h2 : Wrs w B A2 n2 ws) (hB : B ≤ w.heap.size) (hn : n ≤ 1048576) (hn2 : n2 ≤ 1048576) :
    Calls Try.prog 19 #[.agg #[.slice A n c, .slice A2 n2 c2]] w fun e w' => e = .returned (.bool (diskB ss ws)) ∧ Nx w w' := by
  go_enter Try.func19, Try.ntmps19
  go_wp2_with fail
  refine (isRight_c A A2 n c n2 c2 B ss ws _ (h.below ((Nx.refl w).alloc _) hB) (h2.below ((Nx.refl w).alloc _) hB) (Nat.le_trans hB (by simp)) hn hn2).mono ?_
  rintro e w1 ⟨rfl, hnx⟩
  go_wp2
  go_ret
  exact ⟨rfl, ((Nx.refl _).alloc _).trans hnx⟩
end Go.Proofs.Ytccapcadgjlmkaa
