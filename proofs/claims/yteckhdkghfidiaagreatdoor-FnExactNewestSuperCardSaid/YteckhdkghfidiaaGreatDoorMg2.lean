/-
  Texts of the proof, put together in their order: Ins, Nat, Num, Cut.
  Conditions: those of each.
-/
import Derived.Test.YteckhdkghfidiaaGreatDoorMg1
import Derived.Deep.QuietTactic
import Derived.BigQuiet
import Derived.Deep.AppendLies
import Derived.Lib.SplitLaws
/- Words on lists of ints in memory; contracts of the laws' functions on lists of ints, and of ContentOK, as the model and as the program have it. Conditions: what is read can be read, and holds at most 1048576 elements. -/
namespace Go.Proofs.YteckhdkghfidiaaGreatDoor
set_option linter.unusedVariables false
open Go.RowKit

def inAt (xs : List Int) (i : Nat) : Value := .int .i64 (xs.getD i 0)
/-- A list of ints that is read. -/
def Ins (w : World) (B : Nat) (A : Option Addr) (xs : List Int) : Prop := Row w B A xs.length (inAt xs)
theorem Ins.below {w w' : World} {B B' : Nat} {A : Option Addr} {xs : List Int} (h : Ins w B A xs) (hb : Below B' w w') (hB : B ≤ B') : Ins w' B A xs := Row.below h hb hB
theorem Ins.more {w : World} {B B' : Nat} {A : Option Addr} {xs : List Int} (h : Ins w B A xs) (hB : B ≤ B') : Ins w B' A xs := Row.more h hB
theorem Ins.at_ {w : World} {B k : Nat} {A : Option Addr} {xs : List Int} (h : Ins w B A xs) (hk : k < xs.length) :
    ∃ b off, A = some ⟨b, off, none⟩ ∧ b < B ∧ w.cell? ⟨b, off + k, none⟩ = some (.int .i64 (xs.getD k 0)) := by
  obtain ⟨b, off, e, hb, hc⟩ := h (by omega)
  exact ⟨b, off, e, hb, hc k hk⟩
/-- A list of ints in a block of the call's own. -/
abbrev SlI (w : World) (lo : Nat) (A : Option Addr) (xs : List Int) : Prop := Sl w lo A 3 xs.length (inAt xs)
def RetI (w : World) (xs : List Int) (e : Ending) (w' : World) : Prop := ∃ (A : Option Addr) (c : Nat), e = .returned (.slice A xs.length c) ∧ SlI w' w.heap.size A xs ∧ Nx w w'
theorem info_int : (Tryz.prog.info? 3).map (fun i => (i.zero, i.size, i.bytes)) = some (some (.int .i64 0), 1, 8) := by kernel_rfl

set_option maxHeartbeats 1000000 in
theorem toIntS_c (A : Option Addr) (c B : Nat) (xs : List Int) (w : World) (h : Ins w B A xs) (hB : B ≤ w.heap.size) (hn : xs.length ≤ 1048576) :
    Calls Tryz.prog 67 #[.slice A xs.length c] w (RetI w xs) := by
  obtain ⟨i0, hi0, hz0, hz1, hz2⟩ := info_parts info_int
  have hmk := fun W => run_make_rowN (P := Tryz.prog) 23 3 i0 _ Tryz.underlying23 hi0 hz0 .i64 .i64 xs.length xs.length (Nat.le_refl _) (by rw [hz2]; omega) (by omega) W
  rw [hz1] at hmk
  have hmade := Own.made w #[Value.int .i64 0] xs.length 3
  go_enter Tryz.func67, Tryz.ntmps67
  go_wp2
  go_loopw [4] (fun i wr => ∃ k : Nat, k ≤ xs.length ∧ i = .int .i64 k ∧ Fill wr w.heap.size 3 xs.length k (inAt xs) ∧ Nx w wr) (fun i _ => xs.length - (intOf i).toNat)
  case atStart => exact ⟨0, Nat.zero_le _, rfl, Fill.start hmade, (Nx.refl _).alloc _⟩
  case round =>
    obtain ⟨k, hk, rfl, hf, hnx⟩ := hrel
    by_cases hlt : k < xs.length
    · obtain ⟨b, off, rfl, hb, hc⟩ := (h.below hnx hB).at_ hlt
      obtain ⟨v, hv⟩ := hf.some_ hlt
      have hz := hf.frozen k
      clear hmk hmade
      obtain ⟨s, Hs⟩ : ∃ s, Hid (xs.getD k 0 = s) := ⟨_, rfl⟩
      rw [Hs.out] at hc
      go_wp2
      go_roundw
      case rel => exact ⟨k + 1, by omega, by go_num, hf.step hlt (by unfold inAt; rw [Hs.out]), hnx.setCell (Nat.le_refl _) _⟩
      case measure => simp [intOf]; omega
    · obtain rfl : k = xs.length := by omega
      go_wp2
      go_ret
      exact ⟨_, _, rfl, Sl.own hf.done (Nat.le_refl _), hnx⟩

set_option maxHeartbeats 1000000 in
theorem eqIntS_c (A A2 : Option Addr) (c c2 B : Nat) (xs : List Int) (w : World) (h : Ins w B A xs) (h2 : Ins w B A2 xs) (hB : B ≤ w.heap.size) (hn : xs.length ≤ 1048576) :
    Calls Tryz.prog 55 #[.slice A xs.length c, .slice A2 xs.length c2] w fun e w' => e = .returned (.bool true) ∧ Nx w w' := by
  go_enter Tryz.func55, Tryz.ntmps55
  go_wp2
  go_loopw [5] (fun i wr => ∃ k : Nat, k ≤ xs.length ∧ i = .int .i64 k ∧ Nx w wr) (fun i _ => xs.length - (intOf i).toNat)
  case atStart => exact ⟨0, Nat.zero_le _, rfl, Nx.refl _⟩
  case round =>
    obtain ⟨k, hk, rfl, hnx⟩ := hrel
    by_cases hlt : k < xs.length
    · obtain ⟨b, off, rfl, hb, hc⟩ := (h.below hnx hB).at_ hlt
      obtain ⟨b2, off2, rfl, hb2, hc2⟩ := (h2.below hnx hB).at_ hlt
      generalize xs.getD k 0 = s at hc hc2
      go_wp2
      go_quiet (fail)
      go_wp2
      go_roundw
      case rel => exact ⟨k + 1, by omega, by go_num, hnx.drewN _⟩
      case measure => simp [intOf]; omega
    · go_wp2
      go_ret
      exact ⟨rfl, hnx⟩

def mkAt (k i : Nat) : Value := .int .i64 ((k + i : Nat) : Int)
def FillI (w : World) (lo hi : Nat) (A : Option Addr) (n j k : Nat) : Prop := 0 < n → ∃ g, A = some ⟨g, 0, none⟩ ∧ lo ≤ g ∧ g < hi ∧ Fill w g 3 n j (mkAt k)
set_option maxHeartbeats 1000000 in
theorem markIntS_c (A : Option Addr) (n c k lo hi : Nat) (f : Nat → Value) (w : World) (h : Sr w lo hi A 3 n f) (hn : n ≤ 1048576) (hk : k ≤ 1048576) :
    Calls Tryz.prog 61 #[.slice A n c, .int .i64 k] w fun e w' => e = .returned (.int .i64 ((k + n : Nat) : Int)) ∧ Sr w' lo hi A 3 n (mkAt k) ∧ Rg lo hi w w' := by
  have HS : FillI w lo hi A n 0 k := fun hn0 => by
    obtain ⟨g, e, h1, h2, ho⟩ := h (by omega)
    exact ⟨g, e, h1, h2, Fill.start ho⟩
  go_enter Tryz.func61, Tryz.ntmps61
  go_wp2
  go_loopw [1, 5] (fun q i wr => ∃ j : Nat, j ≤ n ∧ i = .int .i64 j ∧ q = .int .i64 ((k + j : Nat) : Int) ∧ FillI wr lo hi A n j k ∧ Rg lo hi w wr) (fun _ i _ => n - (intOf i).toNat)
  case atStart => exact ⟨0, Nat.zero_le _, rfl, rfl, HS, Rg.of_nx (Nx.refl _)⟩
  case round =>
    obtain ⟨j, hj, rfl, rfl, hf, hrg⟩ := hrel
    clear HS
    by_cases hlt : j < n
    · obtain ⟨g, rfl, hg1, hg2, hfill⟩ := hf (by omega)
      obtain ⟨v0, hv0⟩ := hfill.some_ (i := j) (by omega)
      have hz0 := hfill.frozen j
      clear hf
      go_wp2
      go_roundw
      case rel => exact ⟨j + 1, by omega, by go_num, by go_num, fun _ => ⟨g, rfl, hg1, hg2, hfill.step hlt rfl⟩, hrg.setCell hg1 hg2 _⟩
      case measure => simp [intOf]; omega
    · obtain rfl : j = n := by omega
      go_wp2
      go_ret
      refine ⟨rfl, fun hn0 => ?_, hrg⟩
      obtain ⟨g, e, h1, h2, ho⟩ := hf (by omega)
      exact ⟨g, e, h1, h2, ho.done⟩
set_option maxHeartbeats 1000000 in
theorem heldIntS_c (A : Option Addr) (n c k B : Nat) (w : World) (h : Row w B A n (mkAt k)) (hn : n ≤ 1048576) (hk : k ≤ 1048576) :
    Calls Tryz.prog 63 #[.slice A n c, .int .i64 k] w fun e w' => e = .returned (.int .i64 ((k + n : Nat) : Int)) ∧ w = w' := by
  go_enter Tryz.func63, Tryz.ntmps63
  go_wp2
  go_loop [1, 5] (fun q i => ∃ j : Nat, j ≤ n ∧ i = .int .i64 j ∧ q = .int .i64 ((k + j : Nat) : Int)) (fun _ i => n - (intOf i).toNat)
  case atStart => exact ⟨0, Nat.zero_le _, rfl, rfl⟩
  case round =>
    obtain ⟨j, hj, rfl, rfl⟩ := hrel
    by_cases hlt : j < n
    · obtain ⟨b, off, rfl, hb, hc⟩ := h (by omega)
      have c0 : w.cell? ⟨b, off + j, none⟩ = some (.int .i64 ((k + j : Nat) : Int)) := hc j hlt
      obtain ⟨q, Hq⟩ : ∃ q, Hid (k + j = q) := ⟨_, rfl⟩
      have hq9 : q ≤ 8000000 := by have := Hq.out; omega
      rw [Hq.out] at c0 ⊢
      clear hc
      go_wp2
      go_round
      case rel => exact ⟨j + 1, by omega, by go_num, by rw [show k + (j + 1) = q + 1 by have := Hq.out; omega]; go_num⟩
      case measure => simp [intOf]; omega
    · obtain rfl : j = n := by omega
      go_wp2
      go_ret
      exact ⟨rfl, rfl⟩

/-- What a content is. -/
def contB (xs : List Int) : Bool := decide (xs.length = 8) && xs.all (inB 0 999999)
def InTo (xs : List Int) (k : Nat) : Prop := ∀ j, j < k → inB 0 999999 (xs.getD j 0) = true
theorem InTo.zero (xs : List Int) : InTo xs 0 := fun j h => absurd h (by omega)
theorem InTo.succ {xs : List Int} {k : Nat} (h : InTo xs k) (hk : inB 0 999999 (xs.getD k 0) = true) : InTo xs (k + 1) := fun j hj => by
  rcases Nat.lt_or_ge j k with hlt | hge
  · exact h j hlt
  · obtain rfl : j = k := by omega
    exact hk
theorem InTo.all {xs : List Int} (h : InTo xs xs.length) : xs.all (inB 0 999999) = true := List.all_eq_true.2 fun x hx => by
  obtain ⟨j, hj, rfl⟩ := List.mem_iff_getElem.1 hx
  have := h j hj
  rwa [List.getD_eq_getElem?_getD, List.getElem?_eq_getElem hj] at this
theorem contB_no {xs : List Int} {k : Nat} (hk : k < xs.length) (h : inB 0 999999 (xs.getD k 0) = false) : contB xs = false := by
  unfold contB
  rw [show xs.all (inB 0 999999) = false from List.all_eq_false.2 ⟨xs[k], List.getElem_mem _, by rw [List.getD_eq_getElem?_getD, List.getElem?_eq_getElem hk] at h; simp only [Option.getD_some] at h; simp [h]⟩]
  simp
theorem contB_len {xs : List Int} (h : xs.length ≠ 8) : contB xs = false := by unfold contB; rw [decide_eq_false h]; rfl
theorem contB_mk {xs : List Int} (h : xs.length = 8) (h2 : InTo xs xs.length) : contB xs = true := by unfold contB; rw [decide_eq_true h, h2.all]; rfl
theorem contB_yes {xs : List Int} (h : contB xs = true) : xs.length = 8 ∧ ∀ k, k < 8 → 0 ≤ xs.getD k 0 ∧ xs.getD k 0 ≤ 999999 := by
  unfold contB at h
  simp only [Bool.and_eq_true, decide_eq_true_eq, List.all_eq_true] at h
  refine ⟨h.1, fun k hk => inB_yes ?_⟩
  have hk' : k < xs.length := by omega
  rw [List.getD_eq_getElem?_getD, List.getElem?_eq_getElem hk']
  exact h.2 _ (List.getElem_mem _)
end Go.Proofs.YteckhdkghfidiaaGreatDoor
/- Rows of numbers that grow, as values and in memory. Conditions: none. -/
namespace Go.Proofs.YteckhdkghfidiaaGreatDoor
set_option linter.unusedVariables false
open Go.RowKit

def vI (n : Nat) : Value := .int .i64 (n : Int)
theorem vI_toNat {a : Int} (h : 0 ≤ a) : vI a.toNat = .int .i64 a := by unfold vI; rw [Int.toNat_of_nonneg h]
theorem Nx.of_two {a w u : World} (h : Nx a w) (k : Nx a u) : ∀ p : Addr, p.block < a.heap.size → w.cell? p = u.cell? p := fun p hp => (h.cell hp).trans (k.cell hp).symm
theorem owns_nx {w w' : World} {B : Nat} {e : TypeId} {v : Value} {n : Nat} {xs : List Value} (h : w.ownsRow B e 1 v n xs) (hb : Nx w w') : w'.ownsRow B e 1 v n xs := by
  refine h.kept (row := none) ⟨hb.os, hb.tape, hb.output, hb.size, fun i hi _ => hb.block i hi⟩ ?_
  cases hv : v.ownBlock with
  | none => exact .inl rfl
  | some g => exact .inr (by simp)
theorem owns_row {w : World} {B : Nat} {ns : List Nat} {v : Value} (h : w.ownsRow B 3 1 v ns.length (ns.map vI)) (hn : 0 < ns.length) :
    ∃ A c, v = .slice A ns.length c ∧ Row w w.heap.size A ns.length (intAt ns) := by
  obtain ⟨g, cap, rfl, _, hlt⟩ := h.form hn
  refine ⟨_, cap, rfl, fun _ => ⟨g, 0, rfl, hlt, fun i hi => ?_⟩⟩
  rw [Nat.zero_add, h.cellAt i (by omega), List.getElem?_map, List.getElem?_eq_getElem hi]
  unfold intAt vI
  rw [List.getD_eq_getElem?_getD, List.getElem?_eq_getElem hi]; rfl

end Go.Proofs.YteckhdkghfidiaaGreatDoor
/- Numbers read back from digits: what they are, and the contracts of the program's numberOf and numbersOf, and of the model's l02Numbers. Conditions: texts of at most 65536 bytes; the package's errors are known. -/
namespace Go.Proofs.YteckhdkghfidiaaGreatDoor
set_option linter.unusedVariables false
open Go.RowKit

/-- The package's two errors: a0 of a text that is none, a1 of one that is too long. -/
def Er (w : World) (a0 a1 : Addr) : Prop :=
  w.cell? ⟨0, 0, none⟩ = some (.iface 225 (.pointer (some a0))) ∧ w.cell? ⟨1, 0, none⟩ = some (.iface 225 (.pointer (some a1))) ∧ a0 ≠ a1 ∧
  (∃ ca ta, w.heap[a0.block]? = some (.cells ca ta (0, 0))) ∧ ∃ ca ta, w.heap[a1.block]? = some (.cells ca ta (0, 0))
theorem lt_of_heap {w : World} {g : Nat} {o : Obj} (h : w.heap[g]? = some o) : g < w.heap.size := by
  rcases Nat.lt_or_ge g w.heap.size with hlt | hge
  · exact hlt
  · rw [Array.getElem?_eq_none hge] at h; cases h
theorem Er.nx {w w' : World} {a0 a1 : Addr} (h : Er w a0 a1) (hb : Nx w w') : Er w' a0 a1 := by
  obtain ⟨h0, h1, hne, ⟨ca, ta, e0⟩, cb, tb, e1⟩ := h
  exact ⟨(hb.cell (p := ⟨0, 0, none⟩) (World.block_lt_of_cell? w _ h0)).trans h0, (hb.cell (p := ⟨1, 0, none⟩) (World.block_lt_of_cell? w _ h1)).trans h1, hne,
    ⟨ca, ta, (hb.block _ (lt_of_heap e0)).trans e0⟩, cb, tb, (hb.block _ (lt_of_heap e1)).trans e1⟩

def digI (c : Int) : Bool := decide (48 ≤ c) && decide (c ≤ 57)
def digC (c : UInt8) : Bool := digI (c.toNat : Int)
def digL (l : List UInt8) : Bool := l.all digC
def valL (l : List UInt8) : Nat := l.foldl (fun n c => 10 * n + (c.toNat - 48)) 0
theorem digI_yes {c : Int} (h : digI c = true) : 48 ≤ c ∧ c ≤ 57 := by unfold digI at h; simpa using h
theorem valL_snoc (l : List UInt8) (c : UInt8) : valL (l ++ [c]) = 10 * valL l + (c.toNat - 48) := by unfold valL; rw [List.foldl_append]; rfl
theorem digL_snoc (l : List UInt8) (c : UInt8) : digL (l ++ [c]) = (digL l && digC c) := by unfold digL; rw [List.all_append]; simp
theorem valL_bd : ∀ (n : Nat) {l : List UInt8}, l.length = n → digL l = true → valL l < 10 ^ n := by
  intro n
  induction n with
  | zero => intro l hl _; rw [List.length_eq_zero_iff.1 hl]; decide
  | succ n ih =>
    intro l hl h
    rcases List.eq_nil_or_concat l with rfl | ⟨l', c, rfl⟩
    · simp at hl
    · rw [List.concat_eq_append] at hl h ⊢
      rw [digL_snoc, Bool.and_eq_true] at h
      have h1 := ih (by simpa using hl) h.1
      have h2 := digI_yes (show digI (c.toNat : Int) = true from h.2)
      rw [valL_snoc, Nat.pow_succ]
      omega
theorem digL_no {l : List UInt8} {k : Nat} (hk : k < l.length) (h : digC l[k] = false) : digL l = false := by
  unfold digL
  rw [List.all_eq_false]
  exact ⟨l[k], List.getElem_mem hk, by rw [h]; simp⟩
theorem getL (s : ByteArray) (k : Nat) (hk : k < s.size) : s.data.toList[k]'(by simpa using hk) = s[k] := rfl
theorem digL_yes {l : List UInt8} {k : Nat} (h : digL l = true) (hk : k < l.length) : digC l[k] = true := List.all_eq_true.1 h _ (List.getElem_mem hk)

set_option maxHeartbeats 1000000 in
theorem isDigit_c (c : Int) (w : World) : Calls Tryz.prog 145 #[.int .u8 c] w fun e w' => e = .returned (.bool (digI c)) ∧ w = w' := by
  go_enter Tryz.func145, Tryz.ntmps145
  go_wp2
  all_goals (go_ret; refine ⟨ret_bool ?_, rfl⟩; unfold digI; rw [Bool.eq_iff_iff]; simp; try omega)
set_option maxHeartbeats 1000000 in
theorem l00Digit_c (c : Int) (w : World) : Calls Tryz.prog 149 #[.int .u8 c] w fun e w' => e = .returned (.bool (digI c)) ∧ w = w' := by
  go_enter Tryz.func149, Tryz.ntmps149
  go_wp2
  all_goals (go_ret; refine ⟨ret_bool ?_, rfl⟩; unfold digI; rw [Bool.eq_iff_iff]; simp; try omega)

def valTo (s : ByteArray) (k : Nat) : Nat := valL (s.data.toList.take k)
theorem valTo_succ (s : ByteArray) (k : Nat) (h : k < s.size) : valTo s (k + 1) = 10 * valTo s k + (s[k].toNat - 48) := by
  unfold valTo; rw [take_snoc s k h, valL_snoc]
theorem valTo_bd {s : ByteArray} {k : Nat} (hk : k ≤ 6) (h : digL (s.data.toList.take k) = true) : valTo s k < 1000000 := by
  have h1 := valL_bd _ rfl h
  have h2 : (s.data.toList.take k).length ≤ 6 := Nat.le_trans (List.length_take_le _ _) hk
  have h3 : 10 ^ (s.data.toList.take k).length ≤ 10 ^ 6 := Nat.pow_le_pow_right (by omega) h2
  unfold valTo
  omega
theorem num_step {n : Nat} {c : UInt8} (h1 : 48 ≤ (c.toNat : Int)) : 10 * (n : Int) + ((c.toNat : Int) - 48) = ((10 * n + (c.toNat - 48) : Nat) : Int) := by omega

def numV (s : ByteArray) (a0 : Addr) : Value := if digL s.data.toList then .tuple #[.int .i64 ((valL s.data.toList : Nat) : Int), .nilIface] else .tuple #[.int .i64 0, .iface 225 (.pointer (some a0))]
theorem numV_yes {s : ByteArray} {a0 : Addr} (h : digL s.data.toList = true) : .tuple #[.int .i64 ((valL s.data.toList : Nat) : Int), .nilIface] = numV s a0 := by unfold numV; rw [h]; rfl
theorem numV_no {s : ByteArray} {a0 : Addr} (h : digL s.data.toList = false) : .tuple #[.int .i64 0, .iface 225 (.pointer (some a0))] = numV s a0 := by unfold numV; rw [h]; rfl
def RetN (w : World) (v : Value) (e : Ending) (w' : World) : Prop := e = .returned v ∧ Nx w w'
set_option maxRecDepth 100000 in
set_option maxHeartbeats 1000000 in
theorem numberOf_c (s : ByteArray) (w : World) (a0 a1 : Addr) (hs : s.size = 6) (hE : Er w a0 a1) :
    Calls Tryz.prog 126 #[.string s] w (RetN w (numV s a0)) := by
  obtain ⟨c0, _⟩ := hE
  have hs6 : s.size ≤ 6 := by omega
  have Hs := Lib.hid hs
  clear hs
  go_enter Tryz.func126, Tryz.ntmps126
  go_wp2
  go_loop [4, 5] (fun n i => ∃ k : Nat, k ≤ s.size ∧ i = .int .i64 k ∧ digL (s.data.toList.take k) = true ∧ n = .int .i64 ((valTo s k : Nat) : Int)) (fun _ i => s.size - (intOf i).toNat)
  case atStart => exact ⟨0, Nat.zero_le _, rfl, rfl, rfl⟩
  case round =>
    obtain ⟨k, hk, rfl, hd, rfl⟩ := hrel
    have HD := Lib.hid hd
    clear hd
    by_cases hlt : k < s.size
    · have hbd := valTo_bd (s := s) (k := k) (by omega) HD.out
      have HV := Lib.hid (valTo_succ s k hlt)
      have HT := Lib.hid (take_snoc s k hlt)
      obtain ⟨m, Hm⟩ : ∃ m, Hid (valTo s k = m) := ⟨_, rfl⟩
      rw [Hm.out] at hbd HV ⊢
      cases hC : digI (s[k].toNat : Int) with
      | true =>
        obtain ⟨h1, h2⟩ := digI_yes hC
        have HC := Lib.hid hC
        clear hC
        go_wp2_with (go_at_call 145; refine (isDigit_c _ _).mono ?_; rintro e w' ⟨rfl, rfl⟩; rw [HC.out])
        go_round
        case rel => exact ⟨k + 1, by omega, by go_num, by rw [HT.out, digL_snoc, HD.out]; exact HC.out, by rw [HV.out, num_step h1]⟩
        case measure => simp [intOf]; omega
      | false =>
        have HC := Lib.hid hC
        have HF := Lib.hid (digL_no (l := s.data.toList) (k := k) (by simpa using hlt) (by rw [getL s k hlt]; exact hC))
        clear hC
        go_wp2_with (go_at_call 145; refine (isDigit_c _ _).mono ?_; rintro e w' ⟨rfl, rfl⟩; rw [HC.out])
        go_quiet (fail)
        go_wp2
        go_ret2
        exact ⟨congrArg Ending.returned (numV_no HF.out), (Nx.refl _).drewN _⟩
    · obtain rfl : k = s.size := by omega
      have e : s.data.toList.take s.size = s.data.toList := List.take_of_length_le (by simp)
      rw [e] at HD
      have HV := Lib.hid (show valTo s s.size = valL s.data.toList by unfold valTo; rw [e])
      rw [HV.out]
      clear e
      go_wp2
      go_ret2
      exact ⟨congrArg Ending.returned (numV_yes HD.out), Nx.refl _⟩
end Go.Proofs.YteckhdkghfidiaaGreatDoor
/- Texts parted at a byte: what the parts are, as the model's l00Cut and the library's Cut and Split have them. Conditions: none. -/
namespace Go.Proofs.YteckhdkghfidiaaGreatDoor
set_option linter.unusedVariables false
open Go.RowKit

/-- A text parted at each of a byte. -/
def cutL (c : UInt8) : List UInt8 → List (List UInt8)
  | [] => [[]]
  | x :: l => if x = c then [] :: cutL c l else (cutL c l).modifyHead (x :: ·)
theorem cutL_hit (c : UInt8) : ∀ (a b : List UInt8), c ∉ a → cutL c (a ++ c :: b) = a :: cutL c b
  | [], b, _ => by rw [List.nil_append, cutL, if_pos rfl]
  | x :: a, b, h => by
    have hx : x ≠ c := fun e => h (by simp [e])
    have ih := cutL_hit c a b (fun e => h (by simp [e]))
    rw [List.cons_append, cutL, if_neg hx, ih]; rfl
theorem cutL_miss (c : UInt8) : ∀ (a : List UInt8), c ∉ a → cutL c a = [a]
  | [], _ => rfl
  | x :: a, h => by
    have hx : x ≠ c := fun e => h (by simp [e])
    have ih := cutL_miss c a (fun e => h (by simp [e]))
    rw [cutL, if_neg hx, ih]; rfl
theorem part_at (c : UInt8) : ∀ (s : List UInt8), c ∉ s ∨ ∃ a b, c ∉ a ∧ s = a ++ c :: b
  | [] => .inl (by simp)
  | x :: l => by
    by_cases hx : x = c
    · subst hx; exact .inr ⟨[], l, by simp, rfl⟩
    · rcases part_at c l with h | ⟨a, b, h, e⟩
      · exact .inl (by simp [h, Ne.symm hx])
      · exact .inr ⟨x :: a, b, by simp [h, Ne.symm hx], by rw [e]; rfl⟩
theorem cutL_pos (c : UInt8) (s : List UInt8) : 1 ≤ (cutL c s).length := by
  rcases part_at c s with h | ⟨a, b, h, e⟩
  · rw [cutL_miss c s h]; simp
  · rw [e, cutL_hit c a b h]; simp
theorem cutL_one {c : UInt8} {s : List UInt8} (h : (cutL c s).length = 1) : c ∉ s := by
  rcases part_at c s with h1 | ⟨a, b, h1, e⟩
  · exact h1
  · rw [e, cutL_hit c a b h1] at h
    have := cutL_pos c b
    simp only [List.length_cons] at h
    omega
theorem cutL_two {c : UInt8} {s : List UInt8} (h : (cutL c s).length = 2) : ∃ a b, cutL c s = [a, b] ∧ s = a ++ c :: b ∧ c ∉ a ∧ c ∉ b := by
  rcases part_at c s with h1 | ⟨a, b, h1, e⟩
  · rw [cutL_miss c s h1] at h; simp at h
  · have h2 := cutL_hit c a b h1
    rw [e, h2] at h
    have h3 : c ∉ b := cutL_one (by simpa using h)
    exact ⟨a, b, by rw [e, h2, cutL_miss c b h3], e, h1, h3⟩
theorem cutL_mem {c x : UInt8} (hx : x ≠ c) : ∀ {s : List UInt8}, x ∈ s → ∃ p ∈ cutL c s, x ∈ p
  | [], h => by simp at h
  | y :: l, h => by
    by_cases hy : y = c
    · subst hy
      have h2 : x ∈ l := by
        rcases List.mem_cons.1 h with e | e
        · exact absurd e hx
        · exact e
      obtain ⟨p, hp, hxp⟩ := cutL_mem hx h2
      exact ⟨p, by rw [cutL, if_pos rfl]; exact List.mem_cons_of_mem _ hp, hxp⟩
    · rw [cutL, if_neg hy]
      rcases hc : cutL c l with _ | ⟨q, qs⟩
      · have := cutL_pos c l; rw [hc] at this; simp at this
      · rcases List.mem_cons.1 h with e | e
        · exact ⟨y :: q, by simp, by simp [e]⟩
        · obtain ⟨p, hp, hxp⟩ := cutL_mem hx e
          rw [hc] at hp
          rcases List.mem_cons.1 hp with rfl | hp
          · exact ⟨y :: p, by simp, by simp [hxp]⟩
          · exact ⟨p, by simp [hp], hxp⟩
theorem cutL_size (c : UInt8) : ∀ (s : List UInt8), (cutL c s).length ≤ s.length + 1
  | [] => by simp [cutL]
  | x :: l => by
    have := cutL_size c l
    rw [cutL]
    split
    · simp; omega
    · simp; omega
theorem cutL_part {c : UInt8} {s p : List UInt8} (h : p ∈ cutL c s) : p.length ≤ s.length := by
  induction s generalizing p with
  | nil => simp [cutL] at h; subst h; simp
  | cons x l ih =>
    rw [cutL] at h
    split at h
    · rcases List.mem_cons.1 h with rfl | h
      · simp
      · have := ih h; simp; omega
    · rcases hc : cutL c l with _ | ⟨q, qs⟩
      · rw [hc] at h; simp at h
      · rw [hc] at h
        simp only [List.modifyHead_cons, List.mem_cons] at h
        rcases h with rfl | h
        · have := ih (p := q) (by rw [hc]; simp); simp; omega
        · have := ih (p := p) (by rw [hc]; simp [h]); simp; omega

theorem index_cons_ne {b c : UInt8} {l : List UInt8} (h : b ≠ c) : Lib.index (b :: l) [c] = if Lib.index l [c] == -1 then -1 else Lib.index l [c] + 1 := by
  have hp : ([c] : List UInt8).isPrefixOf (b :: l) = false := by simp [List.isPrefixOf, Ne.symm h]
  rw [Lib.index, hp]; simp
theorem index_cons_eq (c : UInt8) (l : List UInt8) : Lib.index (c :: l) [c] = 0 := by rw [Lib.index]; simp [List.isPrefixOf]
theorem index_miss {c : UInt8} : ∀ {s : List UInt8}, c ∉ s → Lib.index s [c] = -1
  | [], _ => rfl
  | x :: l, h => by
    have hx : x ≠ c := fun e => h (by simp [e])
    rw [index_cons_ne hx, index_miss (fun e => h (by simp [e]))]; rfl
theorem index_hit {c : UInt8} : ∀ {a b : List UInt8}, c ∉ a → Lib.index (a ++ c :: b) [c] = a.length
  | [], b, _ => index_cons_eq c b
  | x :: a, b, h => by
    have hx : x ≠ c := fun e => h (by simp [e])
    have ih := index_hit (c := c) (a := a) (b := b) (fun e => h (by simp [e]))
    rw [List.cons_append, index_cons_ne hx, ih, if_neg (by simp)]
    simp
theorem cut_miss {c : UInt8} {s : List UInt8} (h : c ∉ s) : Lib.cut s [c] = (s, [], false) := by
  unfold Lib.cut; rw [index_miss h]; rfl
theorem cut_hit {c : UInt8} {a b : List UInt8} (h : c ∉ a) : Lib.cut (a ++ c :: b) [c] = (a, b, true) := by
  unfold Lib.cut
  rw [index_hit h, if_pos (by omega)]
  have e : (a ++ c :: b).drop (a.length + 1) = b := by
    rw [show a ++ c :: b = (a ++ [c]) ++ b by simp, List.drop_left' (by simp)]
  simp [e]
theorem splitK_cutL (c : UInt8) : ∀ l : List UInt8, Lib.splitK [c] 0 (l.count c) l = cutL c l
  | [] => rfl
  | x :: l => by
    have ih := splitK_cutL c l
    by_cases hx : x = c
    · subst hx
      rw [List.count_cons_self, Lib.splitK, index_cons_eq, if_neg (by decide), cutL, if_pos rfl, ← ih]; rfl
    · rw [List.count_cons_of_ne (by simpa using hx), cutL, if_neg hx, ← ih]
      have hi := index_cons_ne (l := l) hx
      cases hk : l.count c with
      | zero => rfl
      | succ k =>
        rw [Lib.splitK, Lib.splitK, hi]
        have hge := Lib.index_ge l [c]
        by_cases hm : Lib.index l [c] = -1
        · rw [hm]; rfl
        · obtain ⟨j, hj⟩ : ∃ j : Nat, Lib.index l [c] = j := ⟨(Lib.index l [c]).toNat, by omega⟩
          have h1 : ((j : Int) == -1) = false := by rw [beq_eq_false_iff_ne]; omega
          have h2 : ((j : Int) + 1 == -1) = false := by rw [beq_eq_false_iff_ne]; omega
          have h3 : ((j : Int) + 1).toNat = j + 1 := by omega
          rw [hj, h1]
          simp [h2, h3]

def baL (l : List UInt8) : ByteArray := ⟨l.toArray⟩
theorem baL_list (l : List UInt8) : (baL l).data.toList = l := rfl
theorem baL_self (s : ByteArray) : baL s.data.toList = s := rfl
theorem baL_size (l : List UInt8) : (baL l).size = l.length := by simp [baL, ByteArray.size]
/-- The parts as texts. -/
def cutB (c : UInt8) (t : ByteArray) : List ByteArray := (cutL c t.data.toList).map baL
theorem cutB_len (c : UInt8) (t : ByteArray) : (cutB c t).length = (cutL c t.data.toList).length := by unfold cutB; simp
theorem cutB_split (c : UInt8) (t : ByteArray) : Lib.splitB ⟨#[c]⟩ 0 (Lib.countB t ⟨#[c]⟩) t = cutB c t := by
  have h := Lib.splitB_data ⟨#[c]⟩ 0 (Lib.countB t ⟨#[c]⟩) t
  have h2 : Lib.countB t ⟨#[c]⟩ = t.data.toList.count c := Lib.count_one c t.data.toList
  rw [h2] at h ⊢
  have h3 : Lib.splitK (⟨#[c]⟩ : ByteArray).data.toList 0 (t.data.toList.count c) t.data.toList = cutL c t.data.toList := splitK_cutL c _
  rw [h3] at h
  unfold cutB
  rw [← h, List.map_map]
  conv => lhs; rw [← List.map_id (Lib.splitB ⟨#[c]⟩ 0 (t.data.toList.count c) t)]
  exact List.map_congr_left fun x _ => rfl
theorem cutB_count (c : UInt8) (t : ByteArray) : Lib.countB t ⟨#[c]⟩ + 1 = (cutB c t).length := by
  rw [← cutB_split, Lib.splitB_all ⟨#[c]⟩ (by simp [ByteArray.size]) 0 _ t rfl]
theorem cutB_part {c : UInt8} {t : ByteArray} (k : Nat) : ((cutB c t).getD k ByteArray.empty).size ≤ t.size := by
  by_cases hk : k < (cutL c t.data.toList).length
  · unfold cutB
    rw [List.getD_eq_getElem?_getD, List.getElem?_map, List.getElem?_eq_getElem hk, Option.map_some, Option.getD_some, baL_size, ba_size]
    exact cutL_part (List.getElem_mem _)
  · rw [List.getD_eq_getElem?_getD, List.getElem?_eq_none (by rw [cutB_len]; omega)]
    exact Nat.zero_le _
end Go.Proofs.YteckhdkghfidiaaGreatDoor
