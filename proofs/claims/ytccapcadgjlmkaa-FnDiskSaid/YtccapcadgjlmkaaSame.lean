/-
  Contracts of SameDisk, as the model and as the program have it (the program's through the library's slices.Equal): both answer whether all is alike.
  Conditions: both disks can be read, and hold at most 1048576 elements of a kind.
-/
import Derived.Test.YtccapcadgjlmkaaBase
import Derived.Deep.QuietTactic
import Derived.BigQuiet
import Derived.Laws.StructEq
namespace Go.Proofs.Ytccapcadgjlmkaa
set_option linter.unusedVariables false
open Go.RowKit

def eqS (s t : ByteArray) : Bool := s.toList == t.toList
def eqW (x y : Int × ByteArray) : Bool := (x.1 == y.1) && (x.2.toList == y.2.toList)
def sameL {α : Type} (p : α → α → Bool) (d : α) (l m : List α) : Bool := (l.length == m.length) && (List.range l.length).all (fun i => p (l.getD i d) (m.getD i d))
def SameTo {α : Type} (p : α → α → Bool) (d : α) (l m : List α) (k : Nat) : Prop := ∀ i, i < k → p (l.getD i d) (m.getD i d) = true
section
variable {α : Type} {p : α → α → Bool} {d : α} {l m : List α} {k : Nat}
theorem SameTo.zero : SameTo p d l m 0 := fun i hi => absurd hi (by omega)
theorem SameTo.succ {x y : α} (h : SameTo p d l m k) (hx : l.getD k d = x) (hy : m.getD k d = y) (he : p x y = true) : SameTo p d l m (k + 1) := fun i hi => by
  rcases Nat.lt_or_ge i k with hlt | hge
  · exact h i hlt
  · obtain rfl : i = k := by omega
    rw [hx, hy]; exact he
theorem sameL_len (h : l.length ≠ m.length) : false = sameL p d l m := by unfold sameL; rw [beq_eq_false_iff_ne.2 h]; rfl
theorem sameL_no {x y : α} (hk : k < l.length) (hx : l.getD k d = x) (hy : m.getD k d = y) (he : p x y = false) : false = sameL p d l m := by
  unfold sameL
  have : (List.range l.length).all (fun i => p (l.getD i d) (m.getD i d)) = false := by
    rw [List.all_eq_false]
    exact ⟨k, by simpa using hk, by rw [hx, hy, he]; simp⟩
  rw [this]; simp
theorem sameL_yes (hl : l.length = m.length) (h : SameTo p d l m k) (hk : l.length = k) : true = sameL p d l m := by
  unfold sameL
  have : (List.range l.length).all (fun i => p (l.getD i d) (m.getD i d)) = true := by
    rw [List.all_eq_true]
    intro i hi
    exact h i (by rw [← hk]; simpa using hi)
  rw [this, hl]; simp
end

theorem neqW_run (x y : Int) (s t : ByteArray) (W : World) : (binOp .neq 80 (.agg #[.int .i64 x, .string s]) (.agg #[.int .i64 y, .string t])).run Try.prog W = .ok (.bool (!eqW (x, s) (y, t))) W := by
  have h1 := fun d => run_equalIn_struct (P := Try.prog) W d 80 #[.int .i64 x, .string s] #[.int .i64 y, .string t] (by kernel_rfl) (by kernel_rfl)
  unfold eqW
  simp only [binOp]
  simp [Op.equal, Op.maxDepth, h1, go_sem]
  by_cases e1 : x = y <;> by_cases e2 : s.toList = t.toList <;> simp [e1, e2]

set_option maxRecDepth 100000 in
set_option maxHeartbeats 1000000 in
theorem equalS_c (A A2 : Option Addr) (n c n2 c2 B : Nat) (ss tt : List ByteArray) (w : World) (h : Strs w B A n ss) (h2 : Strs w B A2 n2 tt) (hB : B ≤ w.heap.size) (hn : n ≤ 1048576) (hn2 : n2 ≤ 1048576) :
    Calls Try.prog 54 #[.slice A n c, .slice A2 n2 c2] w fun e w' => e = .returned (.bool (sameL eqS ByteArray.empty ss tt)) ∧ Nx w w' := by
  by_cases hl : n = n2
  case neg =>
    have h0 : ((n : Int) != (n2 : Int)) = true := by rw [bne_iff_ne]; omega
    have HF := Lib.hid (sameL_len (p := eqS) (d := ByteArray.empty) (l := ss) (m := tt) (by rw [h.1, h2.1]; exact hl))
    go_enter Try.func54, Try.ntmps54
    go_wp2
    go_ret
    exact ⟨ret_bool HF.out, Nx.refl _⟩
  subst hl
  have HL := Lib.hid (h.1.trans h2.1.symm)
  have HL1 := Lib.hid h.1
  go_enter Try.func54, Try.ntmps54
  go_wp2
  go_loopw [13] (fun i wr => ∃ k : Nat, k ≤ n ∧ i = .int .i64 k ∧ SameTo eqS ByteArray.empty ss tt k ∧ Nx w wr) (fun i _ => n - (intOf i).toNat)
  case atStart => exact ⟨0, Nat.zero_le _, rfl, SameTo.zero, Nx.refl _⟩
  case round =>
    obtain ⟨k, hk, rfl, hto, hnx⟩ := hrel
    by_cases hlt : k < n
    · obtain ⟨b, off, rfl, hb, hc⟩ := (h.below hnx hB).at_ hlt
      obtain ⟨b2, off2, rfl, hb2, hc2⟩ := (h2.below hnx hB).at_ hlt
      obtain ⟨s, Hs⟩ : ∃ s, Hid (ss.getD k ByteArray.empty = s) := ⟨_, rfl⟩
      obtain ⟨t, Ht⟩ : ∃ s, Hid (tt.getD k ByteArray.empty = s) := ⟨_, rfl⟩
      rw [Hs.out] at hc
      rw [Ht.out] at hc2
      cases he : (s.toList == t.toList) with
      | true =>
        have HF := Lib.hid (hto.succ Hs.out Ht.out he)
        go_wp2
        go_quiet (fail)
        go_wp2
        go_roundw
        case rel => exact ⟨k + 1, by omega, by go_num, HF.out, hnx.drewN _⟩
        case measure => simp [intOf]; omega
      | false =>
        have HF := Lib.hid (sameL_no (by rw [HL1.out]; exact hlt) Hs.out Ht.out (p := eqS) he)
        go_wp2
        go_quiet (fail)
        go_wp2
        go_ret
        exact ⟨ret_bool HF.out, hnx.drewN _⟩
    · obtain rfl : k = n := by omega
      go_wp2
      go_ret
      exact ⟨ret_bool (sameL_yes HL.out hto HL1.out), hnx⟩

set_option maxRecDepth 100000 in
set_option maxHeartbeats 1000000 in
theorem equalW_c (A A2 : Option Addr) (n c n2 c2 B : Nat) (ws tt : List (Int × ByteArray)) (w : World) (h : Wrs w B A n ws) (h2 : Wrs w B A2 n2 tt) (hB : B ≤ w.heap.size) (hn : n ≤ 1048576) (hn2 : n2 ≤ 1048576) :
    Calls Try.prog 55 #[.slice A n c, .slice A2 n2 c2] w fun e w' => e = .returned (.bool (sameL eqW (0, ByteArray.empty) ws tt)) ∧ Nx w w' := by
  by_cases hl : n = n2
  case neg =>
    have h0 : ((n : Int) != (n2 : Int)) = true := by rw [bne_iff_ne]; omega
    have HF := Lib.hid (sameL_len (p := eqW) (d := (0, ByteArray.empty)) (l := ws) (m := tt) (by rw [h.1, h2.1]; exact hl))
    go_enter Try.func55, Try.ntmps55
    go_wp2
    go_ret
    exact ⟨ret_bool HF.out, Nx.refl _⟩
  subst hl
  have HL := Lib.hid (h.1.trans h2.1.symm)
  have HL1 := Lib.hid h.1
  go_enter Try.func55, Try.ntmps55
  go_wp2
  go_loopw [13] (fun i wr => ∃ k : Nat, k ≤ n ∧ i = .int .i64 k ∧ SameTo eqW (0, ByteArray.empty) ws tt k ∧ Nx w wr) (fun i _ => n - (intOf i).toNat)
  case atStart => exact ⟨0, Nat.zero_le _, rfl, SameTo.zero, Nx.refl _⟩
  case round =>
    obtain ⟨k, hk, rfl, hto, hnx⟩ := hrel
    by_cases hlt : k < n
    · obtain ⟨b, off, rfl, hb, hc, hd⟩ := (h.below hnx hB).at_ hlt
      obtain ⟨b2, off2, rfl, hb2, hc2, hd2⟩ := (h2.below hnx hB).at_ hlt
      obtain ⟨⟨x, s⟩, Hs⟩ : ∃ s, Hid (ws.getD k (0, ByteArray.empty) = s) := ⟨_, rfl⟩
      obtain ⟨⟨y, t⟩, Ht⟩ : ∃ s, Hid (tt.getD k (0, ByteArray.empty) = s) := ⟨_, rfl⟩
      rw [Hs.out] at hc hd
      rw [Ht.out] at hc2 hd2
      cases he : eqW (x, s) (y, t) with
      | true =>
        have HF := Lib.hid (hto.succ Hs.out Ht.out he)
        have hne := neqW_run x y s t
        rw [he] at hne
        clear he
        go_wp2
        go_quiet (fail)
        go_wp2
        go_roundw
        case rel => exact ⟨k + 1, by omega, by go_num, HF.out, hnx.drewN _⟩
        case measure => simp [intOf]; omega
      | false =>
        have HF := Lib.hid (sameL_no (by rw [HL1.out]; exact hlt) Hs.out Ht.out (p := eqW) he)
        have hne := neqW_run x y s t
        rw [he] at hne
        clear he
        go_wp2
        go_quiet (fail)
        go_wp2
        go_ret
        exact ⟨ret_bool HF.out, hnx.drewN _⟩
    · obtain rfl : k = n := by omega
      go_wp2
      go_ret
      exact ⟨ret_bool (sameL_yes HL.out hto HL1.out), hnx⟩

def sameD (ss tt : List ByteArray) (ws us : List (Int × ByteArray)) : Bool := sameL eqS ByteArray.empty ss tt && sameL eqW (0, ByteArray.empty) ws us

set_option maxRecDepth 100000 in
set_option maxHeartbeats 1000000 in
theorem implSameDisk_c (A A2 A3 A4 : Option Addr) (n c n2 c2 n3 c3 n4 c4 B : Nat) (ss tt : List ByteArray) (ws us : List (Int × ByteArray)) (w : World) (h : Strs w B A n ss) (h2 : Wrs w B A2 n2 ws) (h3 : Strs w B A3 n3 tt) (h4 : Wrs w B A4 n4 us)
    (hB : B ≤ w.heap.size) (hn : n ≤ 1048576) (hn2 : n2 ≤ 1048576) (hn3 : n3 ≤ 1048576) (hn4 : n4 ≤ 1048576) :
    Calls Try.prog 20 #[.agg #[.slice A n c, .slice A2 n2 c2], .agg #[.slice A3 n3 c3, .slice A4 n4 c4]] w fun e w' => e = .returned (.bool (sameD ss tt ws us)) ∧ Nx w w' := by
  go_enter Try.func20, Try.ntmps20
  go_wp2_with fail
  have b0 := (Box.new w 26 #[.slice A n c, .slice A2 n2 c2]).alloc (.cells #[.slice A3 n3 c3, .slice A4 n4 c4] 26)
  have b1 := Box.new (w.alloc (.cells #[.slice A n c, .slice A2 n2 c2] 26)) 26 #[.slice A3 n3 c3, .slice A4 n4 c4]
  have hnx0 := ((Nx.refl w).alloc (.cells #[.slice A n c, .slice A2 n2 c2] 26)).alloc (.cells #[.slice A3 n3 c3, .slice A4 n4 c4] 26)
  simp only [World.size_alloc] at b1
  generalize ((w.alloc (.cells #[.slice A n c, .slice A2 n2 c2] 26)).alloc (.cells #[.slice A3 n3 c3, .slice A4 n4 c4] 26)) = W at *
  refine (equalS_c A A3 n c n3 c3 B ss tt _ (h.below hnx0 hB) (h3.below hnx0 hB) (Nat.le_trans hB hnx0.size) hn hn3).mono ?_
  rintro e w1 ⟨rfl, hnx1⟩
  have hx1 := hnx0.trans hnx1
  have c00 := (b0.nx hnx1).c0
  have c01 := (b0.nx hnx1).c1
  have c10 := (b1.nx hnx1).c0
  have c11 := (b1.nx hnx1).c1
  cases he : sameL eqS ByteArray.empty ss tt with
  | false =>
    have HF := Lib.hid (show false = sameD ss tt ws us by unfold sameD; rw [he]; rfl)
    clear he
    go_wp2
    go_ret
    exact ⟨ret_bool HF.out, hx1⟩
  | true =>
    have HF := Lib.hid (show sameL eqW (0, ByteArray.empty) ws us = sameD ss tt ws us by unfold sameD; rw [he]; rfl)
    clear he
    go_wp2_with fail
    refine (equalW_c A2 A4 n2 c2 n4 c4 B ws us _ (h2.below hx1 hB) (h4.below hx1 hB) (Nat.le_trans hB hx1.size) hn2 hn4).mono ?_
    rintro e w2 ⟨rfl, hnx2⟩
    go_wp2
    go_ret
    exact ⟨ret_bool HF.out, hx1.trans hnx2⟩

theorem sameD_no1 {ss tt : List ByteArray} {ws us : List (Int × ByteArray)} (h : false = sameL eqS ByteArray.empty ss tt) : false = sameD ss tt ws us := by unfold sameD; rw [← h]; rfl
theorem sameD_no2 {ss tt : List ByteArray} {ws us : List (Int × ByteArray)} (h : false = sameL eqW (0, ByteArray.empty) ws us) : false = sameD ss tt ws us := by unfold sameD; rw [← h]; simp
theorem sameD_yes {ss tt : List ByteArray} {ws us : List (Int × ByteArray)} (h : true = sameL eqS ByteArray.empty ss tt) (h2 : true = sameL eqW (0, ByteArray.empty) ws us) : true = sameD ss tt ws us := by unfold sameD; rw [← h, ← h2]; rfl

end Go.Proofs.Ytccapcadgjlmkaa
