/-
  Texts of the proof, put together in their order: Bld, Frt, Nmt, Nat, Num, Cut, Nmo, Nms, Opn, Opf, Opi, Mks.
  Conditions: those of each.
-/
import Derived.Test.YtehahodomfbpjaaGreatDoorMm2
import Derived.Lib.Builder
import Derived.Lib.AppendStr
import Derived.Lib.UnsafeStr
import Derived.Laws.Externs
import Derived.RegionTactic
import Derived.Shelf.Strings.Builder1
import Derived.Deep.AppendLies
import Derived.Deep.QuietTactic
import Derived.BigQuiet
import Derived.Lib.SplitLaws
import Derived.Lib.SmallJoins
import Derived.ChangeSame
import Derived.Deep.Fields
import Derived.Deep.Slices
import Derived.Deep.Strs
import Derived.StillTailTactics
/- Contracts of strings.Builder's WriteString and String on a builder of the call's own. Conditions: at most 100000 bytes are written. -/
namespace Go.Proofs.YtehahodomfbpjaaGreatDoor
set_option linter.unusedVariables false
set_option maxRecDepth 100000
open Go.RowKit

theorem bldSize : (Tryz.prog.info? 186).map (·.size) = some 2 := by kernel_rfl
theorem bldLies : liesAt Tryz.prog Tryz.prog.depth 186 (2 / Tryz.prog.cellsOf 186) 0 186 1 = true := by kernel_rfl
theorem bldByte : (Tryz.prog.info? 5).map (fun i => (i.zero, i.size, i.bytes)) = some (some (.int .u8 0), 1, 1) := by kernel_rfl
theorem bldCells : Tryz.prog.cellsOf 5 = 1 := by kernel_rfl

set_option maxRecDepth 100000 in
set_option maxHeartbeats 1000000 in
/-- The check that a builder has not been copied: one that was written stays as it is. -/
theorem copyUsed_c (b : Nat) (w : World) (h0 : w.cell? ⟨b, 0, none⟩ = some (.pointer (some ⟨b, 0, none⟩))) :
    Calls Tryz.prog 226 #[.pointer (some ⟨b, 0, none⟩)] w fun e w' => e = .returned (.tuple #[]) ∧ w = w' := by
  obtain ⟨j, hj, _⟩ := Option.map_eq_some_iff.1 bldSize
  go_enter Tryz.func226, Tryz.ntmps226
  go_wp2
  rw [Lib.run_neq_ptr_same w _ Tryz.underlying184 hj]
  go_wp2
  go_end0
  exact ⟨rfl, rfl⟩
set_option maxRecDepth 100000 in
set_option maxHeartbeats 1000000 in
/-- .. a new one keeps its own address from then on. -/
theorem copyNew_c (b : Nat) (w : World) (h0 : w.cell? ⟨b, 0, none⟩ = some (.pointer none)) (hsh : w.shape? b = some (186, 2)) (hfz : w.frozen? ⟨b, 0, none⟩ = false) :
    Calls Tryz.prog 226 #[.pointer (some ⟨b, 0, none⟩)] w fun e w' => e = .returned (.tuple #[]) ∧ w.setCell ⟨b, 0, none⟩ (.pointer (some ⟨b, 0, none⟩)) = w' := by
  obtain ⟨j, hj, hjs⟩ := Option.map_eq_some_iff.1 bldSize
  go_enter Tryz.func226, Tryz.ntmps226
  go_wp2
  rw [Lib.run_to_unsafe w ⟨b, 0, none⟩ Tryz.underlying184 Tryz.underlying240 hj (by rw [hjs]; decide) hsh (Nat.zero_lt_succ 1)]
  simp only [Result.andThen]
  rw [Oper.upon_value]
  go_wp2
  rw [run_callFunc_extern Tryz.func252 (by kernel_rfl) (by kernel_rfl) (by kernel_rfl) (e := Extern.AbiNoEscape.same) (by kernel_rfl)]
  rw [Lib.run_noEscape]
  simp only [Result.andThen]
  rw [Oper.upon_value]
  go_wp2
  rw [Lib.run_from_unsafe w ⟨b, 0, none⟩ Tryz.underlying240 Tryz.underlying184 hj hsh bldLies]
  simp only [Result.andThen]
  rw [Oper.upon_value]
  go_wp2
  go_end0
  exact ⟨rfl, rfl⟩

/-- A builder of the call's own that holds the bytes l: its struct is block b, its row lies above b. -/
def Bd (w : World) (b : Nat) (l : List UInt8) : Prop := Lib.IsBuilder 186 5 b b (Lib.byteCells l) w
theorem BuilderAt.nx {T e : TypeId} {B b : Nat} {p : Value} {bs : List Value} {w w' : World} (h : Lib.BuilderAt T e B b p bs w) (hb : Nx w w') : Lib.BuilderAt T e B b p bs w' := by
  have hlt := h.lt
  obtain ⟨hB, v, h1, h2, h3⟩ := h
  refine ⟨hB, v, (hb.block b hlt).trans h1, ?_, h3⟩
  refine h2.kept (row := none) ⟨hb.os, hb.tape, hb.output, hb.size, fun i hi _ => hb.block i hi⟩ ?_
  cases hv : v.ownBlock with
  | none => exact .inl rfl
  | some g => exact .inr (by simp)
theorem Bd.nx {w w' : World} {b : Nat} {l : List UInt8} (h : Bd w b l) (hb : Nx w w') : Bd w' b l := h.imp (fun h => BuilderAt.nx h hb) (fun h => BuilderAt.nx h hb)
theorem Bd.new (w : World) : Bd (w.alloc (.cells #[.pointer none, .slice none 0 0] 186)) w.heap.size [] :=
  .inl ⟨Nat.le_refl _, _, heap_alloc_new w _, ⟨rfl, .inl ⟨rfl, rfl⟩⟩, by simp [Value.ownBlock]⟩
theorem byteCells_append (a b : List UInt8) : Lib.byteCells (a ++ b) = Lib.byteCells a ++ Lib.byteCells b := by simp [Lib.byteCells]

set_option maxRecDepth 100000 in
set_option maxHeartbeats 2000000 in
theorem writeUsed_c (b : Nat) (bs : List Value) (s : ByteArray) (w : World) (h : Lib.BuilderAt 186 5 b b (.pointer (some ⟨b, 0, none⟩)) bs w) (hlen : bs.length + s.size ≤ 100000) (W : World)
    (hW : Calls Tryz.prog 226 #[.pointer (some ⟨b, 0, none⟩)] W fun e w' => e = .returned (.tuple #[]) ∧ w = w') (hb1 : Below b W w) :
    Calls Tryz.prog 165 #[.pointer (some ⟨b, 0, none⟩), .string s] W fun e w' => e = .returned (.tuple #[.int .i64 s.size, .nilIface]) ∧
      Lib.BuilderAt 186 5 b b (.pointer (some ⟨b, 0, none⟩)) (bs ++ Lib.strCells s) w' ∧ Below b W w' := by
  obtain ⟨i0, hi, hz0, hz1, hz2⟩ := info_parts bldByte
  have hlt := h.lt
  obtain ⟨hB, v, hbk, hown, hne⟩ := h
  have c0 : w.cell? ⟨b, 0, none⟩ = some (.pointer (some ⟨b, 0, none⟩)) := by rw [Lib.cell_of_heap hbk]; rfl
  have c1 : w.cell? ⟨b, 1, none⟩ = some v := by rw [Lib.cell_of_heap hbk]; rfl
  go_enter Tryz.func165, Tryz.ntmps165
  go_wp2_with fail
  refine hW.mono ?_
  rintro e w1 ⟨rfl, rfl⟩
  go_wp2_with (at_builtin; refine Lib.wpList_append_own_string _ rfl _ _ 58 9 rfl b 5 i0 Tryz.underlying58 Tryz.underlying9 hi hz0 hz1 hz2 _ _ _ rfl hown s rfl ?c3 ?c4 ?c5 ?_)
  case c3 => unfold maxLen; omega
  case c4 => omega
  case c5 => omega
  intro v' w2 hown' hgrow _
  have hb2 : w2.heap[b]? = some (.cells #[.pointer (some ⟨b, 0, none⟩), v] 186 (0, 0)) := by
    rw [hgrow.block b hlt (fun e => hne e.symm)]
    exact hbk
  have d0 : w2.cell? ⟨b, 0, none⟩ = some (.pointer (some ⟨b, 0, none⟩)) := by rw [Lib.cell_of_heap hb2]; rfl
  have d1 : w2.cell? ⟨b, 1, none⟩ = some v := by rw [Lib.cell_of_heap hb2]; rfl
  have f1 : w2.frozen? ⟨b, 1, none⟩ = false := Lib.frozen_of_heap hb2 1
  obtain ⟨ao, n', cap, rfl⟩ : ∃ ao n' cap, v' = .slice ao n' cap := by
    rcases hown'.2 with ⟨hv, _⟩ | ⟨g, cap, cur, hv, _⟩
    · exact ⟨_, _, _, hv⟩
    · exact ⟨_, _, _, hv⟩
  go_wp2
  go_ret2
  refine ⟨rfl, ?_, ?_⟩
  · exact Lib.BuilderAt.put (T := 186) (e := 5) hB hb2 (bs' := bs ++ Lib.strCells s) (by simpa [Lib.strCells_length] using hown') (by decide)
  · exact (hb1.grown hgrow (by have := hb1.size; omega) (fun k hk => (hown.lt k hk).1)).setCell (p := ⟨b, 1, none⟩) hB _
theorem strCells_bytes (s : ByteArray) : Lib.strCells s = Lib.byteCells s.data.toList := by simp [Lib.strCells, Lib.byteCells]
set_option maxHeartbeats 1000000 in
/-- WriteString: the bytes stand behind the others. -/
theorem writeString_c (b : Nat) (l : List UInt8) (s : ByteArray) (w : World) (h : Bd w b l) (hlen : l.length + s.size ≤ 100000) :
    Calls Tryz.prog 165 #[.pointer (some ⟨b, 0, none⟩), .string s] w fun e w' => e = .returned (.tuple #[.int .i64 s.size, .nilIface]) ∧ Bd w' b (l ++ s.data.toList) ∧ Below b w w' := by
  rcases h with h | h
  · have hlt := h.lt
    have hsh := h.shape
    have h0 := h.cell0
    obtain ⟨hB, v, hbk, hown, hne⟩ := h
    have hfz : w.frozen? ⟨b, 0, none⟩ = false := Lib.frozen_of_heap hbk 0
    have hk := copyNew_c b w h0 hsh hfz
    have hw2 : Lib.BuilderAt 186 5 b b (.pointer (some ⟨b, 0, none⟩)) (Lib.byteCells l) (w.setCell ⟨b, 0, none⟩ (.pointer (some ⟨b, 0, none⟩))) := by
      refine ⟨hB, v, ?_, ?_, hne⟩
      · have hx : Box w b 186 #[.pointer none, v] := hbk
        exact hx.set0 _
      · refine hown.kept (row := some b) ⟨rfl, rfl, rfl, by simp [World.setCell], fun i hi hn => Below.heap_setCell _ _ _ _ (fun e => hn (by rw [e]))⟩ (.inr hne)
    refine (writeUsed_c b (Lib.byteCells l) s _ hw2 (by rw [Lib.byteCells_length]; exact hlen) w hk ((Below.refl b w).setCell (p := ⟨b, 0, none⟩) (Nat.le_refl _) _)).mono ?_
    rintro e w1 ⟨rfl, h1, h2⟩
    refine ⟨rfl, .inr ?_, h2⟩
    rw [byteCells_append, ← strCells_bytes]; exact h1
  · refine (writeUsed_c b (Lib.byteCells l) s _ h (by rw [Lib.byteCells_length]; exact hlen) w (copyUsed_c b w h.cell0) (Below.refl b w)).mono ?_
    rintro e w1 ⟨rfl, h1, h2⟩
    refine ⟨rfl, .inr ?_, h2⟩
    rw [byteCells_append, ← strCells_bytes]; exact h1
set_option maxRecDepth 100000 in
set_option maxHeartbeats 1000000 in
/-- String: the bytes. -/
theorem string_c (b : Nat) (l : List UInt8) (w : World) (h : Bd w b l) (h0 : l ≠ []) :
    Calls Tryz.prog 166 #[.pointer (some ⟨b, 0, none⟩)] w fun e w' => e = .returned (.string ⟨l.toArray⟩) ∧ Below b w w' := by
  obtain ⟨p, hB, v, hbk, hown, hne⟩ : ∃ p, Lib.BuilderAt 186 5 b b p (Lib.byteCells l) w := by
    rcases h with h | h
    · exact ⟨_, h⟩
    · exact ⟨_, h⟩
  have hl0 : l.length ≠ 0 := by simpa using h0
  rw [Lib.byteCells_length] at hown
  obtain ⟨g, cap, cur, rfl, hbg, hg, hnc, hcm, hcs, htake⟩ : ∃ g cap cur, v = .slice (some ⟨g, 0, none⟩) l.length cap ∧ b ≤ g ∧ w.heap[g]? = some (.cells cur 5 (0, 0)) ∧ l.length ≤ cap ∧ cap ≤ maxLen ∧ cur.size = cap * 1 ∧ cur.toList.take (l.length * 1) = Lib.byteCells l := by
    rcases hown.2 with ⟨_, hz⟩ | ⟨g, cap, cur, hv, r⟩
    · exact absurd hz hl0
    · exact ⟨g, cap, cur, hv, r⟩
  have hg' : w.drew.heap[g]? = some (.cells cur 5 (0, 0)) := hg
  have c1 : w.drew.cell? ⟨b, 1, none⟩ = some (.slice (some ⟨g, 0, none⟩) l.length cap) := by
    have : w.drew.heap[b]? = some (.cells #[p, .slice (some ⟨g, 0, none⟩) l.length cap] 186 (0, 0)) := hbk
    rw [Lib.cell_of_heap this]; rfl
  have hSD : (Builtin.unsafeSliceData_ #[58] 230 #[.slice (some ⟨g, 0, none⟩) l.length cap]).run Tryz.prog w.drew = .ok (.pointer (some ⟨g, 0, none⟩)) w.drew :=
    Lib.run_unsafeSliceData_row _ _ _ _ _ _ (by omega)
  have hUS : (Builtin.unsafeString_ #[230, 3] 9 #[.pointer (some ⟨g, 0, none⟩), .int .i64 l.length]).run Tryz.prog w.drew = .ok (.string ⟨l.toArray⟩) (w.drew.freeze ⟨g, 0, none⟩ l.length) := by
    refine Lib.run_unsafeString_row w.drew 230 3 9 5 Tryz.underlying230 bldCells g cur.size (by simp [World.shape?, hg']) l h0 (by omega) (by unfold maxLen at hcm; omega) ?_
    intro j x hx
    exact hown.cells (g := g) rfl j (.int .u8 x.toNat) (by simp [Lib.byteCells, hx])
  go_enter Tryz.func166, Tryz.ntmps166
  go_wp2
  go_region
  all_goals (go_wp2; go_ret; exact ⟨rfl, Lib.below_freeze (Below.drew (Below.refl b w)) (p := ⟨g, 0, none⟩) hbg _⟩)
end Go.Proofs.YtehahodomfbpjaaGreatDoor
/- Contracts of FrameText, as the model has it. Conditions: none. -/
namespace Go.Proofs.YtehahodomfbpjaaGreatDoor
set_option linter.unusedVariables false
set_option maxRecDepth 100000
open Go.RowKit

/-- A text with its sum. -/
def sealS (s : ByteArray) : ByteArray := s ++ ⟨(sumD s).toArray⟩
def numsS (ns : List Nat) : ByteArray := ⟨(padAll ns).toArray⟩
theorem numsS_size (ns : List Nat) : (numsS ns).size = ns.length * 6 := by rw [ba_size]; exact padAll_len ns
theorem Own.new4 (w : World) (t : TypeId) (a b c d : Value) : Own (w.alloc (.cells #[a, b, c, d] t)) w.heap.size t 4 (fun i => #[a, b, c, d].getD i undef) :=
  ⟨_, heap_alloc_new w _, by simp, fun i hi => by
    match i, hi with
    | 0, _ => rfl
    | 1, _ => rfl
    | 2, _ => rfl
    | 3, _ => rfl⟩
end Go.Proofs.YtehahodomfbpjaaGreatDoor
/- Contracts of the program's numbersText and sealed. Conditions: the numbers are from 0 to 999999, at least one and at most 1000; a text of at most 65536 bytes is sealed. -/
namespace Go.Proofs.YtehahodomfbpjaaGreatDoor
set_option linter.unusedVariables false
set_option maxRecDepth 100000
open Go.RowKit

theorem Nx.of_below {a w w' : World} {b : Nat} (h : Nx a w) (k : Below b w w') (hb : a.heap.size ≤ b) : Nx a w' := Below.trans h (Below.mono k hb)
set_option maxHeartbeats 1000000 in
theorem numbersText_c (A : Option Addr) (c B : Nat) (ns : List Nat) (w : World) (h : Row w B A ns.length (intAt ns)) (hB : B ≤ w.heap.size) (h6 : All6 ns) (hn0 : 1 ≤ ns.length) (hn : ns.length ≤ 1000) :
    Calls Tryz.prog 91 #[.slice A ns.length c] w fun e w' => e = .returned (.string (numsS ns)) ∧ Nx w w' := by
  have hbd := Bd.new w
  go_enter Tryz.func91, Tryz.ntmps91
  go_wp2
  go_loopw [8] (fun i wr => ∃ k : Nat, k ≤ ns.length ∧ i = .int .i64 k ∧ Bd wr w.heap.size (padTo ns k) ∧ Nx w wr) (fun i _ => ns.length - (intOf i).toNat)
  case atStart => exact ⟨0, Nat.zero_le _, rfl, hbd, (Nx.refl _).alloc _⟩
  case round =>
    obtain ⟨k, hk, rfl, hb, hnx⟩ := hrel
    clear hbd
    by_cases hlt : k < ns.length
    · obtain ⟨b, off, rfl, hb2, hc0⟩ := (h.below hnx hB) (by omega)
      have hc := hc0 k hlt
      have hn6 := h6 k hlt
      have HP := Lib.hid (padTo_succ ns k hlt)
      have hL := padTo_len ns k hk
      clear hc0
      unfold intAt at hc
      obtain ⟨x, Hx⟩ : ∃ x, Hid (ns.getD k 0 = x) := ⟨_, rfl⟩
      rw [Hx.out] at hc hn6 HP
      have HL := Lib.hid hL
      clear hL
      go_wp2_with fail
      refine (padded_c x 6 _ hn6 (by omega) (by omega)).mono ?_
      rintro e w1 ⟨rfl, hnx1⟩
      go_wp2_with fail
      refine (writeString_c w.heap.size (padTo ns k) _ _ (hb.nx hnx1) (by rw [HL.out]; simp [ByteArray.size, pad_len]; omega)).mono ?_
      rintro e w2 ⟨rfl, hbd2, hbl⟩
      clear hc
      go_wp2
      go_roundw
      case rel => exact ⟨k + 1, by omega, by go_num, by rw [HP.out]; exact hbd2, (hnx.trans hnx1).of_below hbl (Nat.le_refl _)⟩
      case measure => simp [intOf]; omega
    · obtain rfl : k = ns.length := by omega
      have hne : padTo ns ns.length ≠ [] := fun e => by
        have := padTo_len ns ns.length (Nat.le_refl _)
        rw [e] at this
        simp at this
        omega
      go_wp2_with fail
      refine (string_c w.heap.size (padTo ns ns.length) _ hb hne).mono ?_
      rintro e w1 ⟨rfl, hbl⟩
      go_wp2
      go_ret
      exact ⟨ret_str (by rw [padTo_all]; rfl), hnx.of_below hbl (Nat.le_refl _)⟩

set_option maxHeartbeats 1000000 in
theorem sealed_c (s : ByteArray) (w : World) (hs : s.size ≤ 65536) : Calls Tryz.prog 90 #[.string s] w fun e w' => e = .returned (.string (sealS s)) ∧ Nx w w' := by
  obtain ⟨h0, h1⟩ := sumL_bd s.data.toList
  obtain ⟨q, hq⟩ : ∃ q : Nat, sumS s = (q : Int) := ⟨(sumS s).toNat, by have : 0 ≤ sumS s := h0; omega⟩
  have hq6 : q ≤ 996 := by have : sumS s ≤ 996 := h1; omega
  have HD := Lib.hid (show pad 3 q = sumD s by unfold sumD; rw [hq]; rfl)
  have HQ := Lib.hid hq
  clear hq
  go_enter Tryz.func90, Tryz.ntmps90
  go_wp2_with fail
  refine (implSumOf_c s _ (by unfold maxLen; omega)).mono ?_
  rintro e w1 ⟨rfl, rfl⟩
  rw [← sumOfS_yes hs, HQ.out]
  go_wp2_with fail
  refine (padded_c q 3 _ (by omega) (by omega) (by omega)).mono ?_
  rintro e w1 ⟨rfl, hnx1⟩
  obtain ⟨d, Hd⟩ : ∃ d : ByteArray, Hid ((⟨(pad 3 q).toArray⟩ : ByteArray) = d) := ⟨_, rfl⟩
  have hd6 : d.size ≤ 3 := by rw [← Hd.out]; simp [ByteArray.size, pad_len]
  rw [Hd.out]
  go_wp2
  go_ret
  exact ⟨ret_str (by unfold sealS; rw [← HD.out, Hd.out]), hnx1⟩
end Go.Proofs.YtehahodomfbpjaaGreatDoor
/- Rows of numbers that grow, as values and in memory. Conditions: none. -/
namespace Go.Proofs.YtehahodomfbpjaaGreatDoor
set_option linter.unusedVariables false
set_option maxRecDepth 100000
open Go.RowKit

def vI (n : Nat) : Value := .int .i64 (n : Int)
theorem owns_nx {w w' : World} {B : Nat} {e : TypeId} {v : Value} {n : Nat} {xs : List Value} (h : w.ownsRow B e 1 v n xs) (hb : Nx w w') : w'.ownsRow B e 1 v n xs := by
  refine h.kept (row := none) ⟨hb.os, hb.tape, hb.output, hb.size, fun i hi _ => hb.block i hi⟩ ?_
  cases hv : v.ownBlock with
  | none => exact .inl rfl
  | some g => exact .inr (by simp)
theorem owns_row {w : World} {B : Nat} {ns : List Nat} {v : Value} (h : w.ownsRow B 3 1 v ns.length (ns.map vI)) (hn : 0 < ns.length) :
    ∃ A c, v = .slice A ns.length c ∧ Row w w.heap.size A ns.length (intAt ns) := by
  obtain ⟨g, cap, rfl, _, hlt⟩ := h.form hn
  refine ⟨_, cap, rfl, fun _ => ⟨g, 0, rfl, hlt, fun i hi => ?_⟩⟩
  rw [Nat.zero_add, h.cellAt i (by omega), List.getElem?_map, List.getElem?_eq_getElem hi]
  unfold intAt vI
  rw [List.getD_eq_getElem?_getD, List.getElem?_eq_getElem hi]; rfl

end Go.Proofs.YtehahodomfbpjaaGreatDoor
/- Numbers read back from digits: what they are, and the contracts of the program's numberOf and numbersOf, and of the model's l02Numbers. Conditions: texts of at most 65536 bytes; the package's errors are known. -/
namespace Go.Proofs.YtehahodomfbpjaaGreatDoor
set_option linter.unusedVariables false
set_option maxRecDepth 100000
open Go.RowKit

/-- The package's two errors: a0 of a text that is none, a1 of one that is too long. -/
def Er (w : World) (a0 a1 : Addr) : Prop :=
  w.cell? ⟨0, 0, none⟩ = some (.iface 304 (.pointer (some a0))) ∧ w.cell? ⟨1, 0, none⟩ = some (.iface 304 (.pointer (some a1))) ∧ a0 ≠ a1 ∧
  (∃ ca ta, w.heap[a0.block]? = some (.cells ca ta (0, 0))) ∧ ∃ ca ta, w.heap[a1.block]? = some (.cells ca ta (0, 0))
theorem lt_of_heap {w : World} {g : Nat} {o : Obj} (h : w.heap[g]? = some o) : g < w.heap.size := by
  rcases Nat.lt_or_ge g w.heap.size with hlt | hge
  · exact hlt
  · rw [Array.getElem?_eq_none hge] at h; cases h
theorem Er.nx {w w' : World} {a0 a1 : Addr} (h : Er w a0 a1) (hb : Nx w w') : Er w' a0 a1 := by
  obtain ⟨h0, h1, hne, ⟨ca, ta, e0⟩, cb, tb, e1⟩ := h
  exact ⟨(hb.cell (p := ⟨0, 0, none⟩) (World.block_lt_of_cell? w _ h0)).trans h0, (hb.cell (p := ⟨1, 0, none⟩) (World.block_lt_of_cell? w _ h1)).trans h1, hne,
    ⟨ca, ta, (hb.block _ (lt_of_heap e0)).trans e0⟩, cb, tb, (hb.block _ (lt_of_heap e1)).trans e1⟩

def digI (c : Int) : Bool := decide (48 ≤ c) && decide (c ≤ 57)
def digC (c : UInt8) : Bool := digI (c.toNat : Int)
def digL (l : List UInt8) : Bool := l.all digC
def valL (l : List UInt8) : Nat := l.foldl (fun n c => 10 * n + (c.toNat - 48)) 0
theorem digI_yes {c : Int} (h : digI c = true) : 48 ≤ c ∧ c ≤ 57 := by unfold digI at h; simpa using h
theorem valL_snoc (l : List UInt8) (c : UInt8) : valL (l ++ [c]) = 10 * valL l + (c.toNat - 48) := by unfold valL; rw [List.foldl_append]; rfl
theorem digL_snoc (l : List UInt8) (c : UInt8) : digL (l ++ [c]) = (digL l && digC c) := by unfold digL; rw [List.all_append]; simp
theorem valL_bd : ∀ (n : Nat) {l : List UInt8}, l.length = n → digL l = true → valL l < 10 ^ n := by
  intro n
  induction n with
  | zero => intro l hl _; rw [List.length_eq_zero_iff.1 hl]; decide
  | succ n ih =>
    intro l hl h
    rcases List.eq_nil_or_concat l with rfl | ⟨l', c, rfl⟩
    · simp at hl
    · rw [List.concat_eq_append] at hl h ⊢
      rw [digL_snoc, Bool.and_eq_true] at h
      have h1 := ih (by simpa using hl) h.1
      have h2 := digI_yes (show digI (c.toNat : Int) = true from h.2)
      rw [valL_snoc, Nat.pow_succ]
      omega
theorem digL_no {l : List UInt8} {k : Nat} (hk : k < l.length) (h : digC l[k] = false) : digL l = false := by
  unfold digL
  rw [List.all_eq_false]
  exact ⟨l[k], List.getElem_mem hk, by rw [h]; simp⟩
theorem getL (s : ByteArray) (k : Nat) (hk : k < s.size) : s.data.toList[k]'(by simpa using hk) = s[k] := rfl
set_option maxHeartbeats 1000000 in
theorem isDigit_c (c : Int) (w : World) : Calls Tryz.prog 255 #[.int .u8 c] w fun e w' => e = .returned (.bool (digI c)) ∧ w = w' := by
  go_enter Tryz.func255, Tryz.ntmps255
  go_wp2
  all_goals (go_ret; refine ⟨ret_bool ?_, rfl⟩; unfold digI; rw [Bool.eq_iff_iff]; simp; try omega)
def valTo (s : ByteArray) (k : Nat) : Nat := valL (s.data.toList.take k)
theorem valTo_succ (s : ByteArray) (k : Nat) (h : k < s.size) : valTo s (k + 1) = 10 * valTo s k + (s[k].toNat - 48) := by
  unfold valTo; rw [take_snoc s k h, valL_snoc]
theorem valTo_bd {s : ByteArray} {k : Nat} (hk : k ≤ 6) (h : digL (s.data.toList.take k) = true) : valTo s k < 1000000 := by
  have h1 := valL_bd _ rfl h
  have h2 : (s.data.toList.take k).length ≤ 6 := Nat.le_trans (List.length_take_le _ _) hk
  have h3 : 10 ^ (s.data.toList.take k).length ≤ 10 ^ 6 := Nat.pow_le_pow_right (by omega) h2
  unfold valTo
  omega
theorem num_step {n : Nat} {c : UInt8} (h1 : 48 ≤ (c.toNat : Int)) : 10 * (n : Int) + ((c.toNat : Int) - 48) = ((10 * n + (c.toNat - 48) : Nat) : Int) := by omega

def numV (s : ByteArray) (a0 : Addr) : Value := if digL s.data.toList then .tuple #[.int .i64 ((valL s.data.toList : Nat) : Int), .nilIface] else .tuple #[.int .i64 0, .iface 304 (.pointer (some a0))]
theorem numV_yes {s : ByteArray} {a0 : Addr} (h : digL s.data.toList = true) : .tuple #[.int .i64 ((valL s.data.toList : Nat) : Int), .nilIface] = numV s a0 := by unfold numV; rw [h]; rfl
theorem numV_no {s : ByteArray} {a0 : Addr} (h : digL s.data.toList = false) : .tuple #[.int .i64 0, .iface 304 (.pointer (some a0))] = numV s a0 := by unfold numV; rw [h]; rfl
def RetN (w : World) (v : Value) (e : Ending) (w' : World) : Prop := e = .returned v ∧ Nx w w'
set_option maxRecDepth 100000 in
set_option maxHeartbeats 1000000 in
theorem numberOf_c (s : ByteArray) (w : World) (a0 a1 : Addr) (hs : s.size = 6) (hE : Er w a0 a1) :
    Calls Tryz.prog 236 #[.string s] w (RetN w (numV s a0)) := by
  obtain ⟨c0, _⟩ := hE
  have hs6 : s.size ≤ 6 := by omega
  have Hs := Lib.hid hs
  clear hs
  go_enter Tryz.func236, Tryz.ntmps236
  go_wp2
  go_loop [4, 5] (fun n i => ∃ k : Nat, k ≤ s.size ∧ i = .int .i64 k ∧ digL (s.data.toList.take k) = true ∧ n = .int .i64 ((valTo s k : Nat) : Int)) (fun _ i => s.size - (intOf i).toNat)
  case atStart => exact ⟨0, Nat.zero_le _, rfl, rfl, rfl⟩
  case round =>
    obtain ⟨k, hk, rfl, hd, rfl⟩ := hrel
    have HD := Lib.hid hd
    clear hd
    by_cases hlt : k < s.size
    · have hbd := valTo_bd (s := s) (k := k) (by omega) HD.out
      have HV := Lib.hid (valTo_succ s k hlt)
      have HT := Lib.hid (take_snoc s k hlt)
      obtain ⟨m, Hm⟩ : ∃ m, Hid (valTo s k = m) := ⟨_, rfl⟩
      rw [Hm.out] at hbd HV ⊢
      cases hC : digI (s[k].toNat : Int) with
      | true =>
        obtain ⟨h1, h2⟩ := digI_yes hC
        have HC := Lib.hid hC
        clear hC
        go_wp2_with (go_at_call 255; refine (isDigit_c _ _).mono ?_; rintro e w' ⟨rfl, rfl⟩; rw [HC.out])
        go_round
        case rel => exact ⟨k + 1, by omega, by go_num, by rw [HT.out, digL_snoc, HD.out]; exact HC.out, by rw [HV.out, num_step h1]⟩
        case measure => simp [intOf]; omega
      | false =>
        have HC := Lib.hid hC
        have HF := Lib.hid (digL_no (l := s.data.toList) (k := k) (by simpa using hlt) (by rw [getL s k hlt]; exact hC))
        clear hC
        go_wp2_with (go_at_call 255; refine (isDigit_c _ _).mono ?_; rintro e w' ⟨rfl, rfl⟩; rw [HC.out])
        go_quiet (fail)
        go_wp2
        go_ret2
        exact ⟨congrArg Ending.returned (numV_no HF.out), (Nx.refl _).drewN _⟩
    · obtain rfl : k = s.size := by omega
      have e : s.data.toList.take s.size = s.data.toList := List.take_of_length_le (by simp)
      rw [e] at HD
      have HV := Lib.hid (show valTo s s.size = valL s.data.toList by unfold valTo; rw [e])
      rw [HV.out]
      clear e
      go_wp2
      go_ret2
      exact ⟨congrArg Ending.returned (numV_yes HD.out), Nx.refl _⟩
end Go.Proofs.YtehahodomfbpjaaGreatDoor
/- Texts parted at a byte: what the parts are, as the model's l00Cut and the library's Cut and Split have them. Conditions: none. -/
namespace Go.Proofs.YtehahodomfbpjaaGreatDoor
set_option linter.unusedVariables false
set_option maxRecDepth 100000
open Go.RowKit

/-- A text parted at each of a byte. -/
def cutL (c : UInt8) : List UInt8 → List (List UInt8)
  | [] => [[]]
  | x :: l => if x = c then [] :: cutL c l else (cutL c l).modifyHead (x :: ·)
theorem cutL_hit (c : UInt8) : ∀ (a b : List UInt8), c ∉ a → cutL c (a ++ c :: b) = a :: cutL c b
  | [], b, _ => by rw [List.nil_append, cutL, if_pos rfl]
  | x :: a, b, h => by
    have hx : x ≠ c := fun e => h (by simp [e])
    have ih := cutL_hit c a b (fun e => h (by simp [e]))
    rw [List.cons_append, cutL, if_neg hx, ih]; rfl
theorem cutL_miss (c : UInt8) : ∀ (a : List UInt8), c ∉ a → cutL c a = [a]
  | [], _ => rfl
  | x :: a, h => by
    have hx : x ≠ c := fun e => h (by simp [e])
    have ih := cutL_miss c a (fun e => h (by simp [e]))
    rw [cutL, if_neg hx, ih]; rfl
theorem part_at (c : UInt8) : ∀ (s : List UInt8), c ∉ s ∨ ∃ a b, c ∉ a ∧ s = a ++ c :: b
  | [] => .inl (by simp)
  | x :: l => by
    by_cases hx : x = c
    · subst hx; exact .inr ⟨[], l, by simp, rfl⟩
    · rcases part_at c l with h | ⟨a, b, h, e⟩
      · exact .inl (by simp [h, Ne.symm hx])
      · exact .inr ⟨x :: a, b, by simp [h, Ne.symm hx], by rw [e]; rfl⟩
theorem cutL_size (c : UInt8) : ∀ (s : List UInt8), (cutL c s).length ≤ s.length + 1
  | [] => by simp [cutL]
  | x :: l => by
    have := cutL_size c l
    rw [cutL]
    split
    · simp; omega
    · simp; omega
theorem cutL_part {c : UInt8} {s p : List UInt8} (h : p ∈ cutL c s) : p.length ≤ s.length := by
  induction s generalizing p with
  | nil => simp [cutL] at h; subst h; simp
  | cons x l ih =>
    rw [cutL] at h
    split at h
    · rcases List.mem_cons.1 h with rfl | h
      · simp
      · have := ih h; simp; omega
    · rcases hc : cutL c l with _ | ⟨q, qs⟩
      · rw [hc] at h; simp at h
      · rw [hc] at h
        simp only [List.modifyHead_cons, List.mem_cons] at h
        rcases h with rfl | h
        · have := ih (p := q) (by rw [hc]; simp); simp; omega
        · have := ih (p := p) (by rw [hc]; simp [h]); simp; omega

theorem index_cons_ne {b c : UInt8} {l : List UInt8} (h : b ≠ c) : Lib.index (b :: l) [c] = if Lib.index l [c] == -1 then -1 else Lib.index l [c] + 1 := by
  have hp : ([c] : List UInt8).isPrefixOf (b :: l) = false := by simp [List.isPrefixOf, Ne.symm h]
  rw [Lib.index, hp]; simp
theorem index_cons_eq (c : UInt8) (l : List UInt8) : Lib.index (c :: l) [c] = 0 := by rw [Lib.index]; simp [List.isPrefixOf]
theorem index_miss {c : UInt8} : ∀ {s : List UInt8}, c ∉ s → Lib.index s [c] = -1
  | [], _ => rfl
  | x :: l, h => by
    have hx : x ≠ c := fun e => h (by simp [e])
    rw [index_cons_ne hx, index_miss (fun e => h (by simp [e]))]; rfl
theorem index_hit {c : UInt8} : ∀ {a b : List UInt8}, c ∉ a → Lib.index (a ++ c :: b) [c] = a.length
  | [], b, _ => index_cons_eq c b
  | x :: a, b, h => by
    have hx : x ≠ c := fun e => h (by simp [e])
    have ih := index_hit (c := c) (a := a) (b := b) (fun e => h (by simp [e]))
    rw [List.cons_append, index_cons_ne hx, ih, if_neg (by simp)]
    simp
theorem cut_miss {c : UInt8} {s : List UInt8} (h : c ∉ s) : Lib.cut s [c] = (s, [], false) := by
  unfold Lib.cut; rw [index_miss h]; rfl
theorem cut_hit {c : UInt8} {a b : List UInt8} (h : c ∉ a) : Lib.cut (a ++ c :: b) [c] = (a, b, true) := by
  unfold Lib.cut
  rw [index_hit h, if_pos (by omega)]
  have e : (a ++ c :: b).drop (a.length + 1) = b := by
    rw [show a ++ c :: b = (a ++ [c]) ++ b by simp, List.drop_left' (by simp)]
  simp [e]
theorem splitK_cutL (c : UInt8) : ∀ l : List UInt8, Lib.splitK [c] 0 (l.count c) l = cutL c l
  | [] => rfl
  | x :: l => by
    have ih := splitK_cutL c l
    by_cases hx : x = c
    · subst hx
      rw [List.count_cons_self, Lib.splitK, index_cons_eq, if_neg (by decide), cutL, if_pos rfl, ← ih]; rfl
    · rw [List.count_cons_of_ne (by simpa using hx), cutL, if_neg hx, ← ih]
      have hi := index_cons_ne (l := l) hx
      cases hk : l.count c with
      | zero => rfl
      | succ k =>
        rw [Lib.splitK, Lib.splitK, hi]
        have hge := Lib.index_ge l [c]
        by_cases hm : Lib.index l [c] = -1
        · rw [hm]; rfl
        · obtain ⟨j, hj⟩ : ∃ j : Nat, Lib.index l [c] = j := ⟨(Lib.index l [c]).toNat, by omega⟩
          have h1 : ((j : Int) == -1) = false := by rw [beq_eq_false_iff_ne]; omega
          have h2 : ((j : Int) + 1 == -1) = false := by rw [beq_eq_false_iff_ne]; omega
          have h3 : ((j : Int) + 1).toNat = j + 1 := by omega
          rw [hj, h1]
          simp [h2, h3]

def baL (l : List UInt8) : ByteArray := ⟨l.toArray⟩
theorem baL_list (l : List UInt8) : (baL l).data.toList = l := rfl
theorem baL_self (s : ByteArray) : baL s.data.toList = s := rfl
theorem baL_size (l : List UInt8) : (baL l).size = l.length := by simp [baL, ByteArray.size]
/-- The parts as texts. -/
def cutB (c : UInt8) (t : ByteArray) : List ByteArray := (cutL c t.data.toList).map baL
theorem cutB_len (c : UInt8) (t : ByteArray) : (cutB c t).length = (cutL c t.data.toList).length := by unfold cutB; simp
theorem cutB_split (c : UInt8) (t : ByteArray) : Lib.splitB ⟨#[c]⟩ 0 (Lib.countB t ⟨#[c]⟩) t = cutB c t := by
  have h := Lib.splitB_data ⟨#[c]⟩ 0 (Lib.countB t ⟨#[c]⟩) t
  have h2 : Lib.countB t ⟨#[c]⟩ = t.data.toList.count c := Lib.count_one c t.data.toList
  rw [h2] at h ⊢
  have h3 : Lib.splitK (⟨#[c]⟩ : ByteArray).data.toList 0 (t.data.toList.count c) t.data.toList = cutL c t.data.toList := splitK_cutL c _
  rw [h3] at h
  unfold cutB
  rw [← h, List.map_map]
  conv => lhs; rw [← List.map_id (Lib.splitB ⟨#[c]⟩ 0 (t.data.toList.count c) t)]
  exact List.map_congr_left fun x _ => rfl
theorem cutB_count (c : UInt8) (t : ByteArray) : Lib.countB t ⟨#[c]⟩ + 1 = (cutB c t).length := by
  rw [← cutB_split, Lib.splitB_all ⟨#[c]⟩ (by simp [ByteArray.size]) 0 _ t rfl]
theorem cutB_part {c : UInt8} {t : ByteArray} (k : Nat) : ((cutB c t).getD k ByteArray.empty).size ≤ t.size := by
  by_cases hk : k < (cutL c t.data.toList).length
  · unfold cutB
    rw [List.getD_eq_getElem?_getD, List.getElem?_map, List.getElem?_eq_getElem hk, Option.map_some, Option.getD_some, baL_size, ba_size]
    exact cutL_part (List.getElem_mem _)
  · rw [List.getD_eq_getElem?_getD, List.getElem?_eq_none (by rw [cutB_len]; omega)]
    exact Nat.zero_le _
end Go.Proofs.YtehahodomfbpjaaGreatDoor
/- Contracts of the program's numbersOf and of the model's l02Numbers: the numbers of a text of digits. Conditions: texts of at most 65536 bytes; the package's errors are known. -/
namespace Go.Proofs.YtehahodomfbpjaaGreatDoor
set_option linter.unusedVariables false
set_option maxRecDepth 100000
open Go.RowKit

def chunk (l : List UInt8) (j : Nat) : List UInt8 := (l.drop (6 * j)).take 6
def numsOf (l : List UInt8) (k : Nat) : List Nat := (List.range k).map fun j => valL (chunk l j)
theorem numsOf_len (l : List UInt8) (k : Nat) : (numsOf l k).length = k := by simp [numsOf]
theorem numsOf_succ (l : List UInt8) (k : Nat) : numsOf l (k + 1) = numsOf l k ++ [valL (chunk l k)] := by simp [numsOf, List.range_succ]
/-- The numbers of a text, if it is one of numbers. -/
def numsO (l : List UInt8) : Option (List Nat) := if l.length % 6 = 0 ∧ digL l = true then some (numsOf l (l.length / 6)) else none
theorem numsO_yes {l : List UInt8} (h1 : l.length % 6 = 0) (h2 : digL l = true) : numsO l = some (numsOf l (l.length / 6)) := by unfold numsO; rw [if_pos ⟨h1, h2⟩]
theorem numsO_no {l : List UInt8} (h : l.length % 6 ≠ 0 ∨ digL l = false) : numsO l = none := by
  unfold numsO; rw [if_neg]; rintro ⟨h1, h2⟩
  rcases h with h | h
  · exact h h1
  · rw [h] at h2; cases h2
theorem chunk_all {l : List UInt8} (h : digL l = true) (j : Nat) : digL (chunk l j) = true := by
  unfold digL at *
  rw [List.all_eq_true] at *
  exact fun x hx => h x (List.mem_of_mem_drop (List.mem_of_mem_take hx))
theorem chunk_no {l : List UInt8} {j : Nat} (h : digL (chunk l j) = false) : digL l = false := by
  cases h2 : digL l with
  | false => rfl
  | true => rw [chunk_all h2 j] at h; cases h
def RetNums (w : World) (o : Option (List Nat)) (a0 : Addr) (e : Ending) (w' : World) : Prop :=
  Nx w w' ∧ (o = none → e = .returned (.tuple #[.slice none 0 0, .iface 304 (.pointer (some a0))])) ∧
  ∀ ns, o = some ns → ∃ A c, e = .returned (.tuple #[.slice A ns.length c, .nilIface]) ∧ Row w' w'.heap.size A ns.length (intAt ns) ∧ ns.length ≤ c
theorem RetNums.no {w w' : World} {o : Option (List Nat)} {a0 : Addr} (h : o = none) (hn : Nx w w') : RetNums w o a0 (.returned (.tuple #[.slice none 0 0, .iface 304 (.pointer (some a0))])) w' :=
  ⟨hn, fun _ => rfl, fun ns h2 => by rw [h] at h2; cases h2⟩
theorem RetNums.yes {w w' : World} {o : Option (List Nat)} {a0 : Addr} {ns : List Nat} {A : Option Addr} {c : Nat} (h : o = some ns) (hr : Row w' w'.heap.size A ns.length (intAt ns)) (hc : ns.length ≤ c) (hn : Nx w w') : RetNums w o a0 (.returned (.tuple #[.slice A ns.length c, .nilIface])) w' :=
  ⟨hn, (fun h2 => by rw [h] at h2; cases h2), fun ns' h2 => by rw [h] at h2; injection h2 with h2; subst h2; exact ⟨A, c, rfl, hr, hc⟩⟩
theorem owns_row0 {w : World} {B : Nat} {ns : List Nat} {v : Value} (h : w.ownsRow B 3 1 v ns.length (ns.map vI)) :
    ∃ A c, v = .slice A ns.length c ∧ Row w w.heap.size A ns.length (intAt ns) ∧ ns.length ≤ c := by
  rcases Nat.eq_zero_or_pos ns.length with h0 | hp
  · rcases h.2 with ⟨rfl, _⟩ | ⟨g, cap, cur, rfl, _⟩
    · exact ⟨none, 0, by rw [h0], (fun hn => by omega), by omega⟩
    · exact ⟨_, cap, rfl, (fun hn => by omega), by omega⟩
  · obtain ⟨A, c, e, hr⟩ := owns_row h hp
    refine ⟨A, c, e, hr, ?_⟩
    rcases h.2 with ⟨rfl, _⟩ | ⟨g, cap, cur, rfl, _, _, hnc, _⟩
    · injection e with _ e2 e3
      omega
    · injection e with _ e2 e3
      omega
theorem Own.new1 (w : World) (t : TypeId) (a : Value) : Own (w.alloc (.cells #[a] t)) w.heap.size t 1 (fun _ => a) :=
  ⟨_, heap_alloc_new w _, by simp, fun i hi => by obtain rfl : i = 0 := by omega
                                                  rfl⟩
theorem news1 (w : World) (t : TypeId) (x : Value) : ∀ j u, [x][j]? = some u → (w.alloc (.cells #[x] t)).cell? ((Addr.mk w.heap.size 0 none).add j) = some u := fun j u hj => by
  rcases j with _ | j
  · injection hj with hj; subst hj; exact ((Own.new1 w t x).cell (i := 0) (by omega))
  · simp at hj

set_option maxRecDepth 100000 in
set_option maxHeartbeats 2000000 in
theorem numbersOf_c (s : ByteArray) (w : World) (a0 a1 : Addr) (hs : s.size ≤ 65536) (hE : Er w a0 a1) :
    Calls Tryz.prog 197 #[.string s] w (RetNums w (numsO s.data.toList) a0) := by
  obtain ⟨i0, hi0, hz0, hz1, hz2⟩ := info_parts info_int
  by_cases h6 : s.size % 6 = 0
  case neg =>
    have hne : ((s.size : Int) % 6 != 0) = true := by rw [bne_iff_ne]; omega
    have HN := Lib.hid (numsO_no (l := s.data.toList) (.inl (by rw [← ba_size]; exact h6)))
    obtain ⟨c0, _⟩ := hE
    go_enter Tryz.func197, Tryz.ntmps197
    go_wp2
    go_quiet (fail)
    go_wp2
    go_ret2
    exact RetNums.no HN.out ((Nx.refl _).drewN _)
  have hne : ((s.size : Int) % 6 != 0) = false := by rw [bne_eq_false_iff_eq]; omega
  obtain ⟨N, hN⟩ : ∃ N, s.size = 6 * N := ⟨s.size / 6, by omega⟩
  have HN := Lib.hid hN
  clear hN h6
  go_enter Tryz.func197, Tryz.ntmps197
  go_wp2
  go_loopw [4, 5] (fun z i wr => ∃ (k p : Nat) (v : Value), p ≤ s.size ∧ Hid (p = 6 * k) ∧ i = .int .i64 p ∧ v = z ∧ wr.ownsRow w.heap.size 3 1 v k ((numsOf s.data.toList k).map vI) ∧ Hid (∀ j, j < k → digL (chunk s.data.toList j) = true) ∧ Nx w wr) (fun _ i _ => s.size - (intOf i).toNat)
  case atStart => exact ⟨0, 0, _, Nat.zero_le _, Lib.hid rfl, rfl, rfl, ⟨rfl, .inl ⟨rfl, rfl⟩⟩, Lib.hid (fun j hj => by omega), Nx.refl _⟩
  case round =>
    obtain ⟨k, p, v, hp, HP, rfl, rfl, hw, HD, hnx⟩ := hrel
    have hEr := hE.nx hnx
    by_cases hlt : p < s.size
    · have hp6 : p + 6 ≤ s.size := by have := HP.out; have := HN.out; omega
      have hp7 : (p : Int) + 6 ≤ (s.size : Int) := by omega
      have hcs : (s.extract p (p + 6)).data.toList = chunk s.data.toList k := by
        rw [Lib.extract_data, HP.out, show 6 * k + 6 - 6 * k = 6 by omega]; rfl
      have hcz : (s.extract p (p + 6)).size = 6 := by
        rw [ba_size, hcs]; unfold chunk; rw [List.length_take, List.length_drop, ← ba_size]; have := HP.out; omega
      have HCS := Lib.hid hcs
      have HCZ := Lib.hid hcz
      have hk9 : k ≤ 10923 := by have := HP.out; omega
      clear hcs hcz
      cases hdc : digL (chunk s.data.toList k) with
      | false =>
        have HF := Lib.hid (numsO_no (l := s.data.toList) (.inr (chunk_no hdc)))
        have HDC := Lib.hid hdc
        clear hdc
        go_wp2_with fail
        refine (numberOf_c (s.extract p (p + 6)) _ a0 a1 HCZ.out hEr).mono ?_
        rintro e w1 ⟨rfl, hnx1⟩
        rw [← numV_no (by rw [HCS.out]; exact HDC.out)]
        go_wp2
        go_ret2
        exact RetNums.no HF.out (hnx.trans hnx1)
      | true =>
        have HDC := Lib.hid hdc
        have hx9 := valL_bd _ rfl hdc
        clear hdc
        obtain ⟨x, Hx⟩ : ∃ x, Hid (valL (chunk s.data.toList k) = x) := ⟨_, rfl⟩
        clear hx9
        go_wp2_with fail
        refine (numberOf_c (s.extract p (p + 6)) _ a0 a1 HCZ.out hEr).mono ?_
        rintro e w1 ⟨rfl, hnx1⟩
        rw [← numV_yes (by rw [HCS.out]; exact HDC.out), HCS.out, Hx.out]
        have hx1 := (hnx.trans hnx1).alloc (.cells #[.int .i64 x] 3)
        have hw1 := (owns_nx hw hnx1).alloc (.cells #[.int .i64 x] 3)
        have HNW := Lib.hid (news1 w1 3 (.int .i64 x))
        have HO : Hid (∀ u ∈ [Value.int .i64 (x : Int)], u.oneCell' = true) := Lib.hid (fun u hu => by simp only [List.mem_cons, List.not_mem_nil, or_false] at hu; subst hu; rfl)
        go_wp2_with (at_builtin; refine wpList_append_own _ rfl _ _ 27 rfl w.heap.size 3 i0 _ 1 8 Tryz.underlying27 hi0 hz0 hz1 hz2 rfl (by omega) v k _ rfl hw1 ⟨w1.heap.size, 0, none⟩ 1 1 [.int .i64 x] rfl rfl HNW.out HO.out ?c3 ?c4 ?c5 ?_)
        case c3 => unfold maxLen; omega
        case c4 => omega
        case c5 => have := hx1.size; simp only [World.size_alloc] at this ⊢; omega
        intro v2 w2 hw2 hg2 _
        have hx2 : Nx w w2 := Below.grown hx1 hg2 hx1.size (fun k hk => (hw1.lt k hk).1)
        go_wp2
        go_roundw
        case rel =>
          refine ⟨k + 1, p + 6, v2, by omega, Lib.hid (by have := HP.out; omega), by go_num, rfl, ?_, Lib.hid ?_, hx2⟩
          · rw [numsOf_succ, List.map_append, Hx.out]; exact hw2
          · intro j hj
            rcases Nat.lt_or_ge j k with hlt | hge
            · exact HD.out j hlt
            · obtain rfl : j = k := by omega
              exact HDC.out
        case measure => simp [intOf]; omega
    · obtain rfl : p = s.size := by omega
      obtain rfl : k = N := by have := HP.out; have := HN.out; omega
      have hlen := numsOf_len s.data.toList k
      have hw' : wr.ownsRow w.heap.size 3 1 v (numsOf s.data.toList k).length ((numsOf s.data.toList k).map vI) := by rw [hlen]; exact hw
      obtain ⟨A, c, rfl, hrow, hcp⟩ := owns_row0 hw'
      have HCP := Lib.hid hcp
      clear hcp
      have hall : digL s.data.toList = true := by
        unfold digL
        rw [List.all_eq_true]
        intro x hx
        obtain ⟨i, hi, rfl⟩ := List.mem_iff_getElem.1 hx
        have hi' : i < s.size := by rw [ba_size]; exact hi
        have h1 := HD.out (i / 6) (by have := HP.out; omega)
        unfold digL at h1
        rw [List.all_eq_true] at h1
        apply h1
        unfold chunk
        rw [List.mem_iff_getElem]
        refine ⟨i % 6, by rw [List.length_take, List.length_drop]; omega, ?_⟩
        rw [List.getElem_take, List.getElem_drop]
        congr 1
        omega
      have HO := Lib.hid (numsO_yes (l := s.data.toList) (by rw [← ba_size]; have := HP.out; omega) hall)
      have hdiv : s.data.toList.length / 6 = k := by rw [← ba_size]; have := HP.out; omega
      rw [hdiv] at HO
      clear hw hw' hall hlen hdiv
      go_wp2
      go_ret2
      exact RetNums.yes HO.out hrow HCP.out hnx
end Go.Proofs.YtehahodomfbpjaaGreatDoor
/- Contract of the model's l02Numbers: the numbers of a text of digits. Conditions: texts of at most 65536 bytes. -/
namespace Go.Proofs.YtehahodomfbpjaaGreatDoor
set_option linter.unusedVariables false
set_option maxRecDepth 100000
open Go.RowKit

end Go.Proofs.YtehahodomfbpjaaGreatDoor
/- Contracts of the program's unsealed and sealedNumbers, and of the model's l02Open: texts whose sum is right. Conditions: texts of at most 1048576 bytes; the package's errors are known. -/
namespace Go.Proofs.YtehahodomfbpjaaGreatDoor
set_option linter.unusedVariables false
set_option maxRecDepth 100000
open Go.RowKit

def bodyOf (t : ByteArray) : ByteArray := t.extract 0 (t.size - 3)
theorem bodyOf_size (t : ByteArray) : (bodyOf t).size ≤ t.size := by
  unfold bodyOf; rw [ba_size, Lib.extract_data, ba_size t, List.length_take, List.length_drop]; omega
def sealB (t : ByteArray) : Bool := (sealS (bodyOf t)).toList == t.toList
def opensB (t : ByteArray) : Bool := decide (3 ≤ t.size) && sealB t
/-- The numbers of a text with a sum, if it is one. -/
def rdN (t : ByteArray) : Option (List Nat) := if opensB t then numsO (bodyOf t).data.toList else none
theorem opensB_short {t : ByteArray} (h : t.size < 3) : opensB t = false := by unfold opensB; rw [decide_eq_false (by omega)]; rfl
theorem opensB_of {t : ByteArray} (h : 3 ≤ t.size) : opensB t = sealB t := by unfold opensB; rw [decide_eq_true h]; rfl
theorem rdN_no {t : ByteArray} (h : opensB t = false) : rdN t = none := by unfold rdN; rw [h]; rfl
theorem rdN_yes {t : ByteArray} (h : opensB t = true) : rdN t = numsO (bodyOf t).data.toList := by unfold rdN; rw [h]; rfl
theorem l02Seal_s (s : ByteArray) (w : World) (hs : s.size ≤ 1048576) : Calls Tryz.prog 168 #[.string s] w fun e w' => e = .returned (.string (sealS s)) ∧ Nx w w' := l02Seal_c s w hs

/-- What is answered of a text that is too long. -/
def RetUn (w : World) (t : ByteArray) (a0 : Addr) (e : Ending) (w' : World) : Prop :=
  Nx w w' ∧ (opensB t = false → e = .returned (.tuple #[.string ⟨#[]⟩, .iface 304 (.pointer (some a0))])) ∧ (opensB t = true → e = .returned (.tuple #[.string (bodyOf t), .nilIface]))
set_option maxRecDepth 100000 in
set_option maxHeartbeats 1000000 in
theorem unsealed_c (t : ByteArray) (w : World) (a0 a1 : Addr) (ht : t.size ≤ 65536) (hE : Er w a0 a1) : Calls Tryz.prog 195 #[.string t] w (RetUn w t a0) := by
  have hd0 : decide (65536 < (t.size : Int)) = false := by simp; omega
  by_cases h3 : t.size < 3
  · have hd : decide ((t.size : Int) < 3) = true := by simp; omega
    have HO := Lib.hid (opensB_short h3)
    obtain ⟨c0, _⟩ := hE
    go_enter Tryz.func195, Tryz.ntmps195
    go_wp2
    go_quiet (fail)
    go_wp2
    go_ret2
    exact ⟨(Nx.refl _).drewN _, fun _ => rfl, fun h => by rw [HO.out] at h; cases h⟩
  · have hd : decide ((t.size : Int) < 3) = false := by simp; omega
    have HO := Lib.hid (opensB_of (t := t) (by omega))
    have hb1 : 0 ≤ (t.size : Int) - 3 := by omega
    have hb2 : (t.size : Int) - 3 ≤ (t.size : Int) := by omega
    have hb3 : ((t.size : Int) - 3).toNat = t.size - 3 := by omega
    cases hb : sealB t with
    | false =>
      have HB := Lib.hid hb
      clear hb
      go_enter Tryz.func195, Tryz.ntmps195
      go_wp2_with fail
      refine (sealed_c (bodyOf t) _ (Nat.le_trans (bodyOf_size t) ht)).mono ?_
      rintro e w1 ⟨rfl, hnx1⟩
      have hb : ((sealS (bodyOf t)).toList == t.toList) = false := HB.out
      have hb' : ((sealS (bodyOf t)).toList != t.toList) = true := by rw [bne, hb]; rfl
      obtain ⟨c0, _⟩ := hE.nx hnx1
      go_wp2
      go_quiet (fail)
      go_wp2
      go_ret2
      exact ⟨hnx1.drewN _, fun _ => rfl, fun h => by rw [HO.out, HB.out] at h; cases h⟩
    | true =>
      have HB := Lib.hid hb
      clear hb
      go_enter Tryz.func195, Tryz.ntmps195
      go_wp2_with fail
      refine (sealed_c (bodyOf t) _ (Nat.le_trans (bodyOf_size t) ht)).mono ?_
      rintro e w1 ⟨rfl, hnx1⟩
      have hb : ((sealS (bodyOf t)).toList == t.toList) = true := HB.out
      have hb' : ((sealS (bodyOf t)).toList != t.toList) = false := by rw [bne, hb]; rfl
      go_wp2
      go_ret2
      exact ⟨hnx1, (fun h => by rw [HO.out, HB.out] at h; cases h), fun _ => rfl⟩
set_option maxHeartbeats 1000000 in
theorem sealedNumbers_c (t : ByteArray) (w : World) (a0 a1 : Addr) (ht : t.size ≤ 65536) (hE : Er w a0 a1) : Calls Tryz.prog 218 #[.string t] w (RetNums w (rdN t) a0) := by
  cases ho : opensB t with
  | false =>
    have HO := Lib.hid ho
    have HR := Lib.hid (rdN_no ho)
    clear ho
    go_enter Tryz.func218, Tryz.ntmps218
    go_wp2_with fail
    refine (unsealed_c t _ a0 a1 ht hE).mono ?_
    rintro e w1 ⟨hnx1, h1, _⟩
    obtain rfl := h1 HO.out
    clear h1
    go_wp2
    go_ret2
    exact RetNums.no HR.out hnx1
  | true =>
    have HO := Lib.hid ho
    have HR := Lib.hid (rdN_yes ho)
    clear ho
    go_enter Tryz.func218, Tryz.ntmps218
    go_wp2_with fail
    refine (unsealed_c t _ a0 a1 ht hE).mono ?_
    rintro e w1 ⟨hnx1, _, h1⟩
    obtain rfl := h1 HO.out
    clear h1
    go_wp2_with fail
    refine (numbersOf_c (bodyOf t) _ a0 a1 (Nat.le_trans (bodyOf_size t) ht) (hE.nx hnx1)).mono ?_
    rintro e w2 ⟨hnx2, h1, h2⟩
    rw [← HR.out] at h1 h2
    cases hr : rdN t with
    | none =>
      obtain rfl := h1 hr
      have HRN := Lib.hid hr
      clear h1 h2 hr
      go_wp2
      go_ret2
      exact RetNums.no HRN.out (hnx1.trans hnx2)
    | some ns =>
      obtain ⟨A, c, rfl, hrow, hcp⟩ := h2 ns hr
      have HCP := Lib.hid hcp
      clear hcp
      have HRS := Lib.hid hr
      clear h1 h2 hr
      go_wp2
      go_ret2
      exact RetNums.yes HRS.out hrow HCP.out (hnx1.trans hnx2)
end Go.Proofs.YtehahodomfbpjaaGreatDoor
/- A frame that comes in, opened. Conditions: none. -/
namespace Go.Proofs.YtehahodomfbpjaaGreatDoor
set_option linter.unusedVariables false
set_option maxRecDepth 100000
open Go.Joins Go.ChangeShapes Go.WideShapes Go.RowKit Go.Deep
theorem ci_ : Tryz.prog.cellsOf 3 = 1 := by kernel_rfl
section
variable {H : Type} {enc : TypeId × Value → H} {w : World} {base : Nat} {spare : Nat → Bool} {held : Bool}
end
end Go.Proofs.YtehahodomfbpjaaGreatDoor
/- A list of ints that comes in, opened. Conditions: none. -/
namespace Go.Proofs.YtehahodomfbpjaaGreatDoor
set_option linter.unusedVariables false
set_option maxRecDepth 100000
open Go.Joins Go.ChangeShapes Go.WideShapes Go.RowKit Go.Deep
end Go.Proofs.YtehahodomfbpjaaGreatDoor
/- Words on marks and supers: lists of marks in memory; contracts of the laws' functions that count, make and compare them; a super that comes in, opened. Conditions: what is counted, copied or compared can be read; copied and compared: it has at most 1048576 elements of a kind. -/
namespace Go.Proofs.YtehahodomfbpjaaGreatDoor
set_option linter.unusedVariables false
set_option maxRecDepth 100000
open Go.Joins Go.ChangeShapes Go.WideShapes Go.RowKit Go.Deep

/-- A mark: its name, its position. -/
abbrev Mrk := ByteArray × Int
def mrZ : Mrk := (ByteArray.empty, 0)
def mrAt (ms : List Mrk) (i : Nat) : Value := if i % 2 = 0 then .string (ms.getD (i / 2) mrZ).1 else .int .i64 (ms.getD (i / 2) mrZ).2
theorem mrAt0 (ms : List Mrk) (k : Nat) : mrAt ms (k * 2) = .string (ms.getD k mrZ).1 := by
  unfold mrAt; rw [if_pos (by omega), show k * 2 / 2 = k by omega]
theorem mrAt1 (ms : List Mrk) (k : Nat) : mrAt ms (k * 2 + 1) = .int .i64 (ms.getD k mrZ).2 := by
  unfold mrAt; rw [if_neg (by omega), show (k * 2 + 1) / 2 = k by omega]
/-- A list of marks that is read. -/
def Mks (w : World) (B : Nat) (A : Option Addr) (ms : List Mrk) : Prop := Row w B A (ms.length * 2) (mrAt ms)
theorem Mks.below {w w' : World} {B B' : Nat} {A : Option Addr} {ms : List Mrk} (h : Mks w B A ms) (hb : Below B' w w') (hB : B ≤ B') : Mks w' B A ms := Row.below h hb hB
theorem Mks.more {w : World} {B B' : Nat} {A : Option Addr} {ms : List Mrk} (h : Mks w B A ms) (hB : B ≤ B') : Mks w B' A ms := Row.more h hB
theorem Mks.at_ {w : World} {B k : Nat} {A : Option Addr} {ms : List Mrk} (h : Mks w B A ms) (hk : k < ms.length) :
    ∃ b off, A = some ⟨b, off, none⟩ ∧ b < B ∧ w.cell? ⟨b, off + k * 2, none⟩ = some (.string (ms.getD k mrZ).1) ∧ w.cell? ⟨b, off + k * 2 + 1, none⟩ = some (.int .i64 (ms.getD k mrZ).2) := by
  obtain ⟨b, off, e, hb, hc⟩ := h (by omega)
  have h0 := hc (k * 2) (by omega)
  have h1 := hc (k * 2 + 1) (by omega)
  rw [mrAt0] at h0
  rw [mrAt1] at h1
  exact ⟨b, off, e, hb, h0, h1⟩
/-- A list of marks in a block of the call's own. -/
abbrev SlM (w : World) (lo : Nat) (A : Option Addr) (ms : List Mrk) : Prop := Sl w lo A 199 (ms.length * 2) (mrAt ms)
theorem Box.d6 {w : World} {g : Nat} {t : TypeId} {v0 v1 v2 v3 v4 v5 : Value} (h : Box w g t #[v0, v1, v2, v3, v4, v5]) :
    w.cell? ⟨g, 0, none⟩ = some v0 ∧ w.cell? ⟨g, 1, none⟩ = some v1 ∧ w.cell? ⟨g, 2, none⟩ = some v2 ∧ w.cell? ⟨g, 3, none⟩ = some v3 ∧ w.cell? ⟨g, 4, none⟩ = some v4 ∧ w.cell? ⟨g, 5, none⟩ = some v5 :=
  ⟨h.cell 0, h.cell 1, h.cell 2, h.cell 3, h.cell 4, h.cell 5⟩

def AllM (ms : List Mrk) : Prop := ∀ k, (ms.getD k mrZ).1.size ≤ 2 ^ 63 - 1

theorem info_mk : (Tryz.prog.info? 199).map (fun i => (i.zero, i.size, i.bytes)) = some (some (.agg #[.string ByteArray.empty, .int .i64 0]), 2, 24) := by kernel_rfl
section
variable {H : Type} {enc : TypeId × Value → H} {w : World} {base : Nat} {spare : Nat → Bool} {held : Bool}
end
end Go.Proofs.YtehahodomfbpjaaGreatDoor
