/-
  Words on marks and supers: lists of marks in memory; contracts of the laws' functions that count, make and compare them; a super that comes in, opened.
  Conditions: what is counted, copied or compared can be read; copied and compared: it has at most 1048576 elements of a kind.
-/
import Derived.Test.YtihpadelfpogmaaIns
import Derived.Test.YtihpadelfpogmaaOpi
import Derived.Test.YtihpadelfpogmaaLex
import Derived.Deep.Strs
import Derived.StillTailTactics
namespace Go.Proofs.Ytihpadelfpogmaa
set_option linter.unusedVariables false
set_option maxRecDepth 100000
open Go.Joins Go.ChangeShapes Go.WideShapes Go.RowKit Go.Deep

/-- A mark: its name, its position. -/
abbrev Mrk := ByteArray × Int
def mrZ : Mrk := (ByteArray.empty, 0)
def mrAt (ms : List Mrk) (i : Nat) : Value := if i % 2 = 0 then .string (ms.getD (i / 2) mrZ).1 else .int .i64 (ms.getD (i / 2) mrZ).2
theorem mrAt0 (ms : List Mrk) (k : Nat) : mrAt ms (k * 2) = .string (ms.getD k mrZ).1 := by
  unfold mrAt; rw [if_pos (by omega), show k * 2 / 2 = k by omega]
theorem mrAt1 (ms : List Mrk) (k : Nat) : mrAt ms (k * 2 + 1) = .int .i64 (ms.getD k mrZ).2 := by
  unfold mrAt; rw [if_neg (by omega), show (k * 2 + 1) / 2 = k by omega]
/-- A list of marks that is read. -/
def Mks (w : World) (B : Nat) (A : Option Addr) (ms : List Mrk) : Prop := Row w B A (ms.length * 2) (mrAt ms)
theorem Mks.below {w w' : World} {B B' : Nat} {A : Option Addr} {ms : List Mrk} (h : Mks w B A ms) (hb : Below B' w w') (hB : B ≤ B') : Mks w' B A ms := Row.below h hb hB
theorem Mks.more {w : World} {B B' : Nat} {A : Option Addr} {ms : List Mrk} (h : Mks w B A ms) (hB : B ≤ B') : Mks w B' A ms := Row.more h hB
theorem Mks.at_ {w : World} {B k : Nat} {A : Option Addr} {ms : List Mrk} (h : Mks w B A ms) (hk : k < ms.length) :
    ∃ b off, A = some ⟨b, off, none⟩ ∧ b < B ∧ w.cell? ⟨b, off + k * 2, none⟩ = some (.string (ms.getD k mrZ).1) ∧ w.cell? ⟨b, off + k * 2 + 1, none⟩ = some (.int .i64 (ms.getD k mrZ).2) := by
  obtain ⟨b, off, e, hb, hc⟩ := h (by omega)
  have h0 := hc (k * 2) (by omega)
  have h1 := hc (k * 2 + 1) (by omega)
  rw [mrAt0] at h0
  rw [mrAt1] at h1
  exact ⟨b, off, e, hb, h0, h1⟩
/-- A list of marks in a block of the call's own. -/
abbrev SlM (w : World) (lo : Nat) (A : Option Addr) (ms : List Mrk) : Prop := Sl w lo A 87 (ms.length * 2) (mrAt ms)
def RetM (w : World) (ms : List Mrk) (e : Ending) (w' : World) : Prop := ∃ (A : Option Addr) (c : Nat), e = .returned (.slice A ms.length c) ∧ SlM w' w.heap.size A ms ∧ Nx w w'
/-- What a function leaves that answers a super in new memory. -/
def RetU (w : World) (g b p t : Int) (xs : List Int) (ms : List Mrk) (e : Ending) (w' : World) : Prop :=
  ∃ (A : Option Addr) (c : Nat) (A2 : Option Addr) (c2 : Nat), e = .returned (.agg #[.int .i64 g, .int .i64 b, .int .i64 p, .int .i64 t, .slice A xs.length c, .slice A2 ms.length c2]) ∧ xs.length ≤ c ∧ SlI w' w.heap.size A xs ∧ SlM w' w.heap.size A2 ms ∧ Nx w w'
theorem Box.d6 {w : World} {g : Nat} {t : TypeId} {v0 v1 v2 v3 v4 v5 : Value} (h : Box w g t #[v0, v1, v2, v3, v4, v5]) :
    w.cell? ⟨g, 0, none⟩ = some v0 ∧ w.cell? ⟨g, 1, none⟩ = some v1 ∧ w.cell? ⟨g, 2, none⟩ = some v2 ∧ w.cell? ⟨g, 3, none⟩ = some v3 ∧ w.cell? ⟨g, 4, none⟩ = some v4 ∧ w.cell? ⟨g, 5, none⟩ = some v5 :=
  ⟨h.cell 0, h.cell 1, h.cell 2, h.cell 3, h.cell 4, h.cell 5⟩

def lenM (ms : List Mrk) : Nat := (ms.map fun x => x.1.size).sum
def lenMTo (ms : List Mrk) (k : Nat) : Nat := ((ms.map fun x => x.1.size).take k).sum
theorem lenMTo_zero (ms : List Mrk) : lenMTo ms 0 = 0 := rfl
theorem lenMTo_le (ms : List Mrk) (k : Nat) : lenMTo ms k ≤ lenM ms := sum_take_le _ _
theorem lenMTo_all (ms : List Mrk) : lenMTo ms ms.length = lenM ms := by
  unfold lenMTo lenM; rw [List.take_of_length_le (by simp)]
theorem lenMTo_succ (ms : List Mrk) (k : Nat) (h : k < ms.length) : lenMTo ms (k + 1) = lenMTo ms k + (ms.getD k mrZ).1.size := by
  unfold lenMTo
  rw [sum_take_succ _ _ (by simpa using h), List.getD_eq_getElem?_getD, List.getElem?_eq_getElem h]; simp
def AllM (ms : List Mrk) : Prop := ∀ k, (ms.getD k mrZ).1.size ≤ 2 ^ 63 - 1

set_option maxRecDepth 100000 in
set_option maxHeartbeats 1000000 in
theorem szIntS_c (A : Option Addr) (n c : Nat) (left : Int) (w : World) (hn : n ≤ 2 ^ 63 - 1) (h0 : 0 ≤ left) (h1 : left ≤ 1048576) :
    Calls Try.prog 62 #[.slice A n c, .int .i64 left] w fun e w' => e = .returned (.int .i64 (szR left n)) ∧ w = w' := by
  by_cases hle : (n : Int) ≤ left
  · have HF := Lib.hid (szR_yes hle)
    have hd : decide (left - (n : Int) < 0) = false := by simp; omega
    go_enter Try.func62, Try.ntmps62
    go_wp2
    go_ret
    exact ⟨ret_int HF.out, rfl⟩
  · have HF := Lib.hid (szR_no (left := left) (cost := n) (by omega))
    have hd : decide (left - (n : Int) < 0) = true := by simp; omega
    go_enter Try.func62, Try.ntmps62
    go_wp2
    go_ret
    exact ⟨ret_int HF.out, rfl⟩
set_option maxRecDepth 100000 in
set_option maxHeartbeats 1000000 in
theorem szMark_c (a : Int) (s : ByteArray) (left : Int) (w : World) (hm : s.size ≤ 2 ^ 63 - 1) (h0 : 0 ≤ left) (h1 : left ≤ 1048576) :
    Calls Try.prog 142 #[.agg #[.string s, .int .i64 a], .int .i64 left] w fun e w' => e = .returned (.int .i64 (szR left s.size)) ∧ Nx w w' := by
  by_cases hle : (s.size : Int) ≤ left
  · have HF := Lib.hid (szR_yes hle)
    have hd : decide (left - (s.size : Int) < 0) = false := by simp; omega
    go_enter Try.func142, Try.ntmps142
    go_wp2
    go_ret
    exact ⟨ret_int HF.out, (Nx.refl _).alloc _⟩
  · have HF := Lib.hid (szR_no (left := left) (cost := s.size) (by omega))
    have hd : decide (left - (s.size : Int) < 0) = true := by simp; omega
    go_enter Try.func142, Try.ntmps142
    go_wp2
    go_ret
    exact ⟨ret_int HF.out, (Nx.refl _).alloc _⟩
set_option maxRecDepth 100000 in
set_option maxHeartbeats 1000000 in
theorem szMarkS_c (A : Option Addr) (c B : Nat) (ms : List Mrk) (left : Int) (w : World) (h : Mks w B A ms) (hB : B ≤ w.heap.size) (hm : AllM ms) (hn : ms.length ≤ 2 ^ 63 - 1) (h0 : 0 ≤ left) (h1 : left ≤ 1048576) :
    Calls Try.prog 98 #[.slice A ms.length c, .int .i64 left] w fun e w' => e = .returned (.int .i64 (szR left (ms.length + lenM ms))) ∧ Nx w w' := by
  by_cases hle : (ms.length : Int) ≤ left
  case neg =>
    have HF := Lib.hid (szR_no (left := left) (cost := ms.length + lenM ms) (by omega))
    have hd : decide (left - (ms.length : Int) < 0) = true := by simp; omega
    go_enter Try.func98, Try.ntmps98
    go_wp2
    go_ret
    exact ⟨ret_int HF.out, Nx.refl _⟩
  have hd : decide (left - (ms.length : Int) < 0) = false := by simp; omega
  go_enter Try.func98, Try.ntmps98
  go_wp2
  go_loopw [1, 5] (fun l i wr => ∃ k : Nat, k ≤ ms.length ∧ i = .int .i64 k ∧ (ms.length : Int) + lenMTo ms k ≤ left ∧ l = .int .i64 (left - (ms.length + lenMTo ms k)) ∧ Nx w wr) (fun _ i _ => ms.length - (intOf i).toNat)
  case atStart => exact ⟨0, Nat.zero_le _, rfl, by rw [lenMTo_zero]; omega, by rw [lenMTo_zero]; go_num, Nx.refl _⟩
  case round =>
    obtain ⟨k, hk, rfl, hle2, rfl, hnx⟩ := hrel
    by_cases hlt : k < ms.length
    · obtain ⟨b, off, rfl, hb, hc0, hc1⟩ := (h.below hnx hB).at_ hlt
      have hmk := hm k
      have hsu := Lib.hid (lenMTo_succ ms k hlt)
      have hle3 := Lib.hid (lenMTo_le ms (k + 1))
      generalize ms.getD k mrZ = s at *
      obtain ⟨s, a⟩ := s
      by_cases hg : (ms.length : Int) + (lenMTo ms k + s.size) ≤ left
      · have hd2 : decide (left - (ms.length + lenMTo ms k) - (s.size : Int) < 0) = false := by simp; omega
        go_wp2_with fail
        refine (szMark_c a s _ _ hmk (by omega) (by omega)).mono ?_
        rintro e w1 ⟨rfl, hnx1⟩
        rw [← szR_yes (by omega)]
        go_wp2
        go_roundw
        case rel => exact ⟨k + 1, by omega, by go_num, by rw [hsu.out]; omega, by rw [hsu.out]; go_num, hnx.trans hnx1⟩
        case measure => simp [intOf]; omega
      · go_wp2_with fail
        refine (szMark_c a s _ _ hmk (by omega) (by omega)).mono ?_
        rintro e w1 ⟨rfl, hnx1⟩
        rw [← szR_no (by omega)]
        go_wp2
        go_ret
        exact ⟨ret_int (szR_no (by have := hsu.out; have := hle3.out; omega)), hnx.trans hnx1⟩
    · obtain rfl : k = ms.length := by omega
      go_wp2
      go_ret
      refine ⟨ret_int ?_, hnx⟩
      have := lenMTo_all ms
      rw [this] at hle2 ⊢
      exact szR_yes hle2
def costU (xs : List Int) (ms : List Mrk) : Int := xs.length + (ms.length + lenM ms)
set_option maxRecDepth 100000 in
set_option maxHeartbeats 1000000 in
theorem szSuper_c (g b p t : Int) (A A2 : Option Addr) (c c2 B : Nat) (xs : List Int) (ms : List Mrk) (left : Int) (w : World) (h2 : Mks w B A2 ms) (hB : B ≤ w.heap.size) (hm : AllM ms)
    (hn : xs.length ≤ 2 ^ 63 - 1) (hn2 : ms.length ≤ 2 ^ 63 - 1) (h0 : 0 ≤ left) (h1 : left ≤ 1048576) :
    Calls Try.prog 38 #[.agg #[.int .i64 g, .int .i64 b, .int .i64 p, .int .i64 t, .slice A xs.length c, .slice A2 ms.length c2], .int .i64 left] w fun e w' => e = .returned (.int .i64 (szR left (costU xs ms))) ∧ Nx w w' := by
  by_cases hle : (xs.length : Int) ≤ left
  case neg =>
    have HF := Lib.hid (szR_no (left := left) (cost := costU xs ms) (by unfold costU; omega))
    go_enter Try.func38, Try.ntmps38
    go_wp2_with fail
    refine (szIntS_c A xs.length c left _ hn h0 h1).mono ?_
    rintro e w1 ⟨rfl, rfl⟩
    rw [← szR_no (by omega)]
    go_wp2
    go_ret
    exact ⟨ret_int HF.out, (Nx.refl _).alloc _⟩
  go_enter Try.func38, Try.ntmps38
  go_wp2_with fail
  refine (szIntS_c A xs.length c left _ hn h0 h1).mono ?_
  rintro e w1 ⟨rfl, rfl⟩
  rw [← szR_yes hle]
  have hd : decide (left - (xs.length : Int) < 0) = false := by simp; omega
  go_wp2_with fail
  refine (szMarkS_c A2 c2 B ms _ _ (h2.below ((Nx.refl w).alloc _) hB) (Nat.le_trans hB (by simp)) hm hn2 (by omega) (by omega)).mono ?_
  rintro e w1 ⟨rfl, hnx⟩
  by_cases hle2 : (ms.length : Int) + lenM ms ≤ left - xs.length
  · rw [← szR_yes hle2]
    have hd : decide (left - (xs.length : Int) - (ms.length + lenM ms) < 0) = false := by simp; omega
    go_wp2
    go_ret
    refine ⟨ret_int ?_, ((Nx.refl _).alloc _).trans hnx⟩
    rw [← szR_yes (by unfold costU; omega)]
    unfold costU
    omega
  · rw [← szR_no (by omega)]
    go_wp2
    go_ret
    exact ⟨ret_int (szR_no (by unfold costU; omega)), ((Nx.refl _).alloc _).trans hnx⟩

theorem info_mk : (Try.prog.info? 87).map (fun i => (i.zero, i.size, i.bytes)) = some (some (.agg #[.string ByteArray.empty, .int .i64 0]), 2, 24) := by kernel_rfl
set_option maxRecDepth 100000 in
set_option maxHeartbeats 1000000 in
theorem toMark_c (a : Int) (s : ByteArray) (w : World) :
    Calls Try.prog 143 #[.agg #[.string s, .int .i64 a]] w fun e w' => e = .returned (.agg #[.string s, .int .i64 a]) ∧ Nx w w' := by
  go_enter Try.func143, Try.ntmps143
  go_wp2
  exact bodyPost_ret (v := .agg #[.string s, .int .i64 a]) (by simp [results, Try.results143, go_sem]) rfl ⟨rfl, ((((Nx.refl _).alloc _).alloc _).alloc _)⟩
set_option maxRecDepth 100000 in
set_option maxHeartbeats 1000000 in
theorem toMarkS_c (A : Option Addr) (c B : Nat) (ms : List Mrk) (w : World) (h : Mks w B A ms) (hB : B ≤ w.heap.size) (hn : ms.length ≤ 1048576) :
    Calls Try.prog 100 #[.slice A ms.length c] w (RetM w ms) := by
  obtain ⟨i0, hi0, hz0, hz1, hz2⟩ := info_parts info_mk
  have hmk := fun W => run_make_rowN (P := Try.prog) 31 87 i0 _ Try.underlying31 hi0 hz0 .i64 .i64 ms.length ms.length (Nat.le_refl _) (by rw [hz2]; omega) (by omega) W
  rw [hz1] at hmk
  have hmade := Own.made w #[Value.string ByteArray.empty, Value.int .i64 0] (ms.length * 2) 87
  go_enter Try.func100, Try.ntmps100
  go_wp2
  go_loopw [4] (fun i wr => ∃ k : Nat, k ≤ ms.length ∧ i = .int .i64 k ∧ Fill wr w.heap.size 87 (ms.length * 2) (k * 2) (mrAt ms) ∧ Nx w wr) (fun i _ => ms.length - (intOf i).toNat)
  case atStart => exact ⟨0, Nat.zero_le _, rfl, Fill.start hmade, (Nx.refl _).alloc _⟩
  case round =>
    obtain ⟨k, hk, rfl, hf, hnx⟩ := hrel
    by_cases hlt : k < ms.length
    · obtain ⟨b, off, rfl, hb, hc0, hc1⟩ := (h.below hnx hB).at_ hlt
      clear hmk hmade
      obtain ⟨⟨s, a⟩, Hs⟩ : ∃ s, Hid (ms.getD k mrZ = s) := ⟨_, rfl⟩
      rw [Hs.out] at hc0 hc1
      go_wp2_with fail
      refine (toMark_c a s _).mono ?_
      rintro e w1 ⟨rfl, hnx1⟩
      have hf1 := hf.nx hnx1
      obtain ⟨v0, hv0⟩ := hf1.some_ (i := k * 2) (by omega)
      obtain ⟨v1, hv1⟩ := hf1.some_ (i := k * 2 + 1) (by omega)
      have hz0 := hf1.frozen (k * 2)
      have hz1 := hf1.frozen (k * 2 + 1)
      clear hc0 hc1
      go_wp2
      go_roundw
      case rel =>
        refine ⟨k + 1, by omega, by go_num, ?_, ((hnx.trans hnx1).setCell (Nat.le_refl _) _).setCell (Nat.le_refl _) _⟩
        have e2 : (k + 1) * 2 = k * 2 + 1 + 1 := by omega
        rw [e2]
        exact (hf1.step (by omega) (by rw [mrAt0, Hs.out])).step (by omega) (by rw [mrAt1, Hs.out])
      case measure => simp [intOf]; omega
    · obtain rfl : k = ms.length := by omega
      go_wp2
      go_ret
      exact ⟨_, _, rfl, Sl.own hf.done (Nat.le_refl _), hnx⟩
set_option maxRecDepth 100000 in
set_option maxHeartbeats 1000000 in
theorem eqMark_c (a : Int) (s : ByteArray) (w : World) :
    Calls Try.prog 147 #[.agg #[.string s, .int .i64 a], .agg #[.string s, .int .i64 a]] w fun e w' => e = .returned (.bool true) ∧ Nx w w' := by
  go_enter Try.func147, Try.ntmps147
  go_wp2
  go_ret
  exact ⟨rfl, (((Nx.refl _).alloc _).alloc _)⟩
set_option maxRecDepth 100000 in
set_option maxHeartbeats 1000000 in
theorem eqMarkS_c (A A2 : Option Addr) (c c2 B : Nat) (ms : List Mrk) (w : World) (h : Mks w B A ms) (h2 : Mks w B A2 ms) (hB : B ≤ w.heap.size) (hn : ms.length ≤ 1048576) :
    Calls Try.prog 103 #[.slice A ms.length c, .slice A2 ms.length c2] w fun e w' => e = .returned (.bool true) ∧ Nx w w' := by
  go_enter Try.func103, Try.ntmps103
  go_wp2
  go_loopw [5] (fun i wr => ∃ k : Nat, k ≤ ms.length ∧ i = .int .i64 k ∧ Nx w wr) (fun i _ => ms.length - (intOf i).toNat)
  case atStart => exact ⟨0, Nat.zero_le _, rfl, Nx.refl _⟩
  case round =>
    obtain ⟨k, hk, rfl, hnx⟩ := hrel
    by_cases hlt : k < ms.length
    · obtain ⟨b, off, rfl, hb, hc, hd⟩ := (h.below hnx hB).at_ hlt
      obtain ⟨b2, off2, rfl, hb2, hc2, hd2⟩ := (h2.below hnx hB).at_ hlt
      generalize ms.getD k mrZ = s at hc hc2 hd hd2
      obtain ⟨s, a⟩ := s
      go_wp2_with fail
      go_still_tail 8, (by kernel_rfl)
      change wpList _ _ _ _ _ wr.drew
      have hnx1 : Nx w wr.drew := Below.drew hnx
      generalize wr.drew = wd at *
      go_wp2_with fail
      refine (eqMark_c a s _).mono ?_
      rintro e w1 ⟨rfl, hnx2⟩
      go_wp2
      go_roundw
      case rel => exact ⟨k + 1, by omega, by go_num, hnx1.trans hnx2⟩
      case measure => simp [intOf]; omega
    · go_wp2
      go_ret
      exact ⟨rfl, hnx⟩
theorem cs_ : Try.prog.cellsOf 9 = 1 := by kernel_rfl
theorem cLM : Try.prog.cellsOf 150 = 2 := by kernel_rfl
theorem cLU : Try.prog.cellsOf 25 = 6 := by kernel_rfl
section
variable {H : Type} {enc : TypeId × Value → H} {w : World} {base : Nat} {spare : Nat → Bool} {held : Bool}
set_option maxRecDepth 100000 in
theorem open_marks_ {fuel : Nat} {v : Value} {x : DataW H × List MemPlace} (h : DataW.trod enc Try.prog w base spare held fuel 23 [v] = some x) :
    ∃ (A : Option Addr) (c : Nat) (ms : List Mrk), v = .slice A ms.length c ∧ Mks w w.heap.size A ms ∧ AllM ms ∧ ms.length ≤ 2 ^ 63 - 1 := by
  rcases open_slice Try.underlying23 h with ⟨hcs, _⟩ | ⟨a, len, cap, m, n, D, Pl, hcs, _, hl, hm, hmm, _, hi⟩
  · exact ⟨none, 0, [], by simpa using hcs, fun hn => absurd hn (by simp), fun k => by simp [mrZ], by simp⟩
  · have hle : len ≤ m := by rw [hmm]; split <;> omega
    unfold maxLen at hm
    have key : ∀ i, ∃ p : Mrk, i < m → w.cell? (a.add (i * 2)) = some (.string p.1) ∧ w.cell? ((a.add (i * 2)).add 1) = some (.int .i64 p.2) ∧ p.1.size ≤ 2 ^ 63 - 1 := by
      intro i
      by_cases him : i < m
      · obtain ⟨cs', hc, ht⟩ := hi i him
        rw [cLM] at hc
        obtain ⟨_, hcl, hat⟩ := World.cells?_some hc
        obtain ⟨y0, y1, k, _, _, t0, t1⟩ := trod_struct2 Try.underlying150 ht
        match cs', hcl with
        | [u0, u1], _ =>
          have e0 : ∃ q, [u0] = [Value.string q] ∧ q.size ≤ maxLen := by
            obtain ⟨q, e, _, hq⟩ := DataW.trod_string Try.underlying9 t0
            rw [cs_] at e
            exact ⟨q, e, hq⟩
          have e1 : ∃ q, [u1] = [Value.int .i64 q] := by
            obtain ⟨q, e, _, _⟩ := DataW.trod_int (k := .i64) Try.underlying3 t1
            rw [ci_] at e
            exact ⟨q, e⟩
          obtain ⟨q0, e0, hq⟩ := e0
          obtain ⟨q1, e1⟩ := e1
          simp only [List.cons.injEq, and_true] at e0 e1
          subst e0 e1
          refine ⟨(q0, q1), fun _ => ⟨?_, hat 1 (by omega), by unfold maxLen at hq; exact hq⟩⟩
          have := hat 0 (by omega)
          simpa [Addr.add] using this
      · exact ⟨mrZ, fun h => absurd h him⟩
    obtain ⟨g, hg⟩ := Classical.skolem.1 key
    have hget : ∀ k, k < len → ((List.range len).map g).getD k mrZ = g k := by
      intro k hk
      rw [List.getD_eq_getElem?_getD, List.getElem?_map, List.getElem?_range hk]; rfl
    have hlen : ((List.range len).map g).length = len := by simp
    refine ⟨some a, cap, (List.range len).map g, by simpa using hcs, fun hn => ?_, fun k => ?_, by simp; omega⟩
    · rw [hlen] at hn
      have h0 := (hg 0 (by omega)).1
      rw [Nat.zero_mul] at h0
      obtain ⟨b, off, rfl, hb⟩ := addr_plain_i h0
      refine ⟨b, off, rfl, hb, fun i hi => ?_⟩
      rw [hlen] at hi
      have h1 := (hg (i / 2) (by omega)).1
      have h2 := (hg (i / 2) (by omega)).2.1
      rw [addr_add_i] at h1 h2
      rw [addr_add_i] at h2
      unfold mrAt
      rw [hget _ (by omega)]
      by_cases hp : i % 2 = 0
      · rw [if_pos hp, show off + i = off + i / 2 * 2 by omega]
        exact h1
      · rw [if_neg hp, show off + i = off + i / 2 * 2 + 1 by omega]
        exact h2
    · by_cases hk : k < len
      · rw [hget k hk]; exact (hg k (by omega)).2.2
      · rw [List.getD_eq_getElem?_getD, List.getElem?_eq_none (by simp; omega)]
        simp [mrZ]
end
end Go.Proofs.Ytihpadelfpogmaa
