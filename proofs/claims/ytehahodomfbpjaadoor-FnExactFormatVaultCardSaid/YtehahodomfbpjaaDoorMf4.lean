/-
  Texts of the proof, put together in their order: Bld, Frt, Nmt, Nat, Num, Cut, Nmo, Nms, Opn, Opf, Opi, Mks, Sup, Sok, Rdv, Rbk, Sio.
  Conditions: those of each.
-/
import Derived.Test.YtehahodomfbpjaaDoorMf3
import Derived.Lib.Builder
import Derived.Lib.AppendStr
import Derived.Lib.UnsafeStr
import Derived.Laws.Externs
import Derived.RegionTactic
import Derived.Shelf.Strings.Builder1
import Derived.Deep.AppendLies
import Derived.Deep.QuietTactic
import Derived.BigQuiet
import Derived.Lib.SplitLaws
import Derived.Lib.SmallJoins
import Derived.ChangeSame
import Derived.Deep.Fields
import Derived.Deep.Slices
import Derived.Deep.Strs
import Derived.StillTailTactics
import Derived.IntWalk
import Derived.Laws.Cover1
/- Contracts of strings.Builder's WriteString and String on a builder of the call's own. Conditions: at most 100000 bytes are written. -/
namespace Go.Proofs.YtehahodomfbpjaaDoor
set_option linter.unusedVariables false
set_option maxRecDepth 100000
open Go.RowKit

theorem bldSize : (Tryd.prog.info? 94).map (·.size) = some 2 := by kernel_rfl
theorem bldLies : liesAt Tryd.prog Tryd.prog.depth 94 (2 / Tryd.prog.cellsOf 94) 0 94 1 = true := by kernel_rfl
theorem bldByte : (Tryd.prog.info? 5).map (fun i => (i.zero, i.size, i.bytes)) = some (some (.int .u8 0), 1, 1) := by kernel_rfl
theorem bldCells : Tryd.prog.cellsOf 5 = 1 := by kernel_rfl

set_option maxRecDepth 100000 in
set_option maxHeartbeats 1000000 in
/-- The check that a builder has not been copied: one that was written stays as it is. -/
theorem copyUsed_c (b : Nat) (w : World) (h0 : w.cell? ⟨b, 0, none⟩ = some (.pointer (some ⟨b, 0, none⟩))) :
    Calls Tryd.prog 83 #[.pointer (some ⟨b, 0, none⟩)] w fun e w' => e = .returned (.tuple #[]) ∧ w = w' := by
  obtain ⟨j, hj, _⟩ := Option.map_eq_some_iff.1 bldSize
  go_enter Tryd.func83, Tryd.ntmps83
  go_wp2
  rw [Lib.run_neq_ptr_same w _ Tryd.underlying92 hj]
  go_wp2
  go_end0
  exact ⟨rfl, rfl⟩
set_option maxRecDepth 100000 in
set_option maxHeartbeats 1000000 in
/-- .. a new one keeps its own address from then on. -/
theorem copyNew_c (b : Nat) (w : World) (h0 : w.cell? ⟨b, 0, none⟩ = some (.pointer none)) (hsh : w.shape? b = some (94, 2)) (hfz : w.frozen? ⟨b, 0, none⟩ = false) :
    Calls Tryd.prog 83 #[.pointer (some ⟨b, 0, none⟩)] w fun e w' => e = .returned (.tuple #[]) ∧ w.setCell ⟨b, 0, none⟩ (.pointer (some ⟨b, 0, none⟩)) = w' := by
  obtain ⟨j, hj, hjs⟩ := Option.map_eq_some_iff.1 bldSize
  go_enter Tryd.func83, Tryd.ntmps83
  go_wp2
  rw [Lib.run_to_unsafe w ⟨b, 0, none⟩ Tryd.underlying92 Tryd.underlying121 hj (by rw [hjs]; decide) hsh (Nat.zero_lt_succ 1)]
  simp only [Result.andThen]
  rw [Oper.upon_value]
  go_wp2
  rw [run_callFunc_extern Tryd.func92 (by kernel_rfl) (by kernel_rfl) (by kernel_rfl) (e := Extern.AbiNoEscape.same) (by kernel_rfl)]
  rw [Lib.run_noEscape]
  simp only [Result.andThen]
  rw [Oper.upon_value]
  go_wp2
  rw [Lib.run_from_unsafe w ⟨b, 0, none⟩ Tryd.underlying121 Tryd.underlying92 hj hsh bldLies]
  simp only [Result.andThen]
  rw [Oper.upon_value]
  go_wp2
  go_end0
  exact ⟨rfl, rfl⟩

/-- A builder of the call's own that holds the bytes l: its struct is block b, its row lies above b. -/
def Bd (w : World) (b : Nat) (l : List UInt8) : Prop := Lib.IsBuilder 94 5 b b (Lib.byteCells l) w
theorem BuilderAt.nx {T e : TypeId} {B b : Nat} {p : Value} {bs : List Value} {w w' : World} (h : Lib.BuilderAt T e B b p bs w) (hb : Nx w w') : Lib.BuilderAt T e B b p bs w' := by
  have hlt := h.lt
  obtain ⟨hB, v, h1, h2, h3⟩ := h
  refine ⟨hB, v, (hb.block b hlt).trans h1, ?_, h3⟩
  refine h2.kept (row := none) ⟨hb.os, hb.tape, hb.output, hb.size, fun i hi _ => hb.block i hi⟩ ?_
  cases hv : v.ownBlock with
  | none => exact .inl rfl
  | some g => exact .inr (by simp)
theorem Bd.nx {w w' : World} {b : Nat} {l : List UInt8} (h : Bd w b l) (hb : Nx w w') : Bd w' b l := h.imp (fun h => BuilderAt.nx h hb) (fun h => BuilderAt.nx h hb)
theorem Bd.new (w : World) : Bd (w.alloc (.cells #[.pointer none, .slice none 0 0] 94)) w.heap.size [] :=
  .inl ⟨Nat.le_refl _, _, heap_alloc_new w _, ⟨rfl, .inl ⟨rfl, rfl⟩⟩, by simp [Value.ownBlock]⟩
theorem byteCells_append (a b : List UInt8) : Lib.byteCells (a ++ b) = Lib.byteCells a ++ Lib.byteCells b := by simp [Lib.byteCells]

set_option maxRecDepth 100000 in
set_option maxHeartbeats 2000000 in
theorem writeUsed_c (b : Nat) (bs : List Value) (s : ByteArray) (w : World) (h : Lib.BuilderAt 94 5 b b (.pointer (some ⟨b, 0, none⟩)) bs w) (hlen : bs.length + s.size ≤ 100000) (W : World)
    (hW : Calls Tryd.prog 83 #[.pointer (some ⟨b, 0, none⟩)] W fun e w' => e = .returned (.tuple #[]) ∧ w = w') (hb1 : Below b W w) :
    Calls Tryd.prog 63 #[.pointer (some ⟨b, 0, none⟩), .string s] W fun e w' => e = .returned (.tuple #[.int .i64 s.size, .nilIface]) ∧
      Lib.BuilderAt 94 5 b b (.pointer (some ⟨b, 0, none⟩)) (bs ++ Lib.strCells s) w' ∧ Below b W w' := by
  obtain ⟨i0, hi, hz0, hz1, hz2⟩ := info_parts bldByte
  have hlt := h.lt
  obtain ⟨hB, v, hbk, hown, hne⟩ := h
  have c0 : w.cell? ⟨b, 0, none⟩ = some (.pointer (some ⟨b, 0, none⟩)) := by rw [Lib.cell_of_heap hbk]; rfl
  have c1 : w.cell? ⟨b, 1, none⟩ = some v := by rw [Lib.cell_of_heap hbk]; rfl
  go_enter Tryd.func63, Tryd.ntmps63
  go_wp2_with fail
  refine hW.mono ?_
  rintro e w1 ⟨rfl, rfl⟩
  go_wp2_with (at_builtin; refine Lib.wpList_append_own_string _ rfl _ _ 35 9 rfl b 5 i0 Tryd.underlying35 Tryd.underlying9 hi hz0 hz1 hz2 _ _ _ rfl hown s rfl ?c3 ?c4 ?c5 ?_)
  case c3 => unfold maxLen; omega
  case c4 => omega
  case c5 => omega
  intro v' w2 hown' hgrow _
  have hb2 : w2.heap[b]? = some (.cells #[.pointer (some ⟨b, 0, none⟩), v] 94 (0, 0)) := by
    rw [hgrow.block b hlt (fun e => hne e.symm)]
    exact hbk
  have d0 : w2.cell? ⟨b, 0, none⟩ = some (.pointer (some ⟨b, 0, none⟩)) := by rw [Lib.cell_of_heap hb2]; rfl
  have d1 : w2.cell? ⟨b, 1, none⟩ = some v := by rw [Lib.cell_of_heap hb2]; rfl
  have f1 : w2.frozen? ⟨b, 1, none⟩ = false := Lib.frozen_of_heap hb2 1
  obtain ⟨ao, n', cap, rfl⟩ : ∃ ao n' cap, v' = .slice ao n' cap := by
    rcases hown'.2 with ⟨hv, _⟩ | ⟨g, cap, cur, hv, _⟩
    · exact ⟨_, _, _, hv⟩
    · exact ⟨_, _, _, hv⟩
  go_wp2
  go_ret2
  refine ⟨rfl, ?_, ?_⟩
  · exact Lib.BuilderAt.put (T := 94) (e := 5) hB hb2 (bs' := bs ++ Lib.strCells s) (by simpa [Lib.strCells_length] using hown') (by decide)
  · exact (hb1.grown hgrow (by have := hb1.size; omega) (fun k hk => (hown.lt k hk).1)).setCell (p := ⟨b, 1, none⟩) hB _
theorem strCells_bytes (s : ByteArray) : Lib.strCells s = Lib.byteCells s.data.toList := by simp [Lib.strCells, Lib.byteCells]
set_option maxHeartbeats 1000000 in
/-- WriteString: the bytes stand behind the others. -/
theorem writeString_c (b : Nat) (l : List UInt8) (s : ByteArray) (w : World) (h : Bd w b l) (hlen : l.length + s.size ≤ 100000) :
    Calls Tryd.prog 63 #[.pointer (some ⟨b, 0, none⟩), .string s] w fun e w' => e = .returned (.tuple #[.int .i64 s.size, .nilIface]) ∧ Bd w' b (l ++ s.data.toList) ∧ Below b w w' := by
  rcases h with h | h
  · have hlt := h.lt
    have hsh := h.shape
    have h0 := h.cell0
    obtain ⟨hB, v, hbk, hown, hne⟩ := h
    have hfz : w.frozen? ⟨b, 0, none⟩ = false := Lib.frozen_of_heap hbk 0
    have hk := copyNew_c b w h0 hsh hfz
    have hw2 : Lib.BuilderAt 94 5 b b (.pointer (some ⟨b, 0, none⟩)) (Lib.byteCells l) (w.setCell ⟨b, 0, none⟩ (.pointer (some ⟨b, 0, none⟩))) := by
      refine ⟨hB, v, ?_, ?_, hne⟩
      · have hx : Box w b 94 #[.pointer none, v] := hbk
        exact hx.set0 _
      · refine hown.kept (row := some b) ⟨rfl, rfl, rfl, by simp [World.setCell], fun i hi hn => Below.heap_setCell _ _ _ _ (fun e => hn (by rw [e]))⟩ (.inr hne)
    refine (writeUsed_c b (Lib.byteCells l) s _ hw2 (by rw [Lib.byteCells_length]; exact hlen) w hk ((Below.refl b w).setCell (p := ⟨b, 0, none⟩) (Nat.le_refl _) _)).mono ?_
    rintro e w1 ⟨rfl, h1, h2⟩
    refine ⟨rfl, .inr ?_, h2⟩
    rw [byteCells_append, ← strCells_bytes]; exact h1
  · refine (writeUsed_c b (Lib.byteCells l) s _ h (by rw [Lib.byteCells_length]; exact hlen) w (copyUsed_c b w h.cell0) (Below.refl b w)).mono ?_
    rintro e w1 ⟨rfl, h1, h2⟩
    refine ⟨rfl, .inr ?_, h2⟩
    rw [byteCells_append, ← strCells_bytes]; exact h1
set_option maxRecDepth 100000 in
set_option maxHeartbeats 1000000 in
/-- String: the bytes. -/
theorem string_c (b : Nat) (l : List UInt8) (w : World) (h : Bd w b l) (h0 : l ≠ []) :
    Calls Tryd.prog 64 #[.pointer (some ⟨b, 0, none⟩)] w fun e w' => e = .returned (.string ⟨l.toArray⟩) ∧ Below b w w' := by
  obtain ⟨p, hB, v, hbk, hown, hne⟩ : ∃ p, Lib.BuilderAt 94 5 b b p (Lib.byteCells l) w := by
    rcases h with h | h
    · exact ⟨_, h⟩
    · exact ⟨_, h⟩
  have hl0 : l.length ≠ 0 := by simpa using h0
  rw [Lib.byteCells_length] at hown
  obtain ⟨g, cap, cur, rfl, hbg, hg, hnc, hcm, hcs, htake⟩ : ∃ g cap cur, v = .slice (some ⟨g, 0, none⟩) l.length cap ∧ b ≤ g ∧ w.heap[g]? = some (.cells cur 5 (0, 0)) ∧ l.length ≤ cap ∧ cap ≤ maxLen ∧ cur.size = cap * 1 ∧ cur.toList.take (l.length * 1) = Lib.byteCells l := by
    rcases hown.2 with ⟨_, hz⟩ | ⟨g, cap, cur, hv, r⟩
    · exact absurd hz hl0
    · exact ⟨g, cap, cur, hv, r⟩
  have hg' : w.drew.heap[g]? = some (.cells cur 5 (0, 0)) := hg
  have c1 : w.drew.cell? ⟨b, 1, none⟩ = some (.slice (some ⟨g, 0, none⟩) l.length cap) := by
    have : w.drew.heap[b]? = some (.cells #[p, .slice (some ⟨g, 0, none⟩) l.length cap] 94 (0, 0)) := hbk
    rw [Lib.cell_of_heap this]; rfl
  have hSD : (Builtin.unsafeSliceData_ #[35] 112 #[.slice (some ⟨g, 0, none⟩) l.length cap]).run Tryd.prog w.drew = .ok (.pointer (some ⟨g, 0, none⟩)) w.drew :=
    Lib.run_unsafeSliceData_row _ _ _ _ _ _ (by omega)
  have hUS : (Builtin.unsafeString_ #[112, 3] 9 #[.pointer (some ⟨g, 0, none⟩), .int .i64 l.length]).run Tryd.prog w.drew = .ok (.string ⟨l.toArray⟩) (w.drew.freeze ⟨g, 0, none⟩ l.length) := by
    refine Lib.run_unsafeString_row w.drew 112 3 9 5 Tryd.underlying112 bldCells g cur.size (by simp [World.shape?, hg']) l h0 (by omega) (by unfold maxLen at hcm; omega) ?_
    intro j x hx
    exact hown.cells (g := g) rfl j (.int .u8 x.toNat) (by simp [Lib.byteCells, hx])
  go_enter Tryd.func64, Tryd.ntmps64
  go_wp2
  go_region
  all_goals (go_wp2; go_ret; exact ⟨rfl, Lib.below_freeze (Below.drew (Below.refl b w)) (p := ⟨g, 0, none⟩) hbg _⟩)
end Go.Proofs.YtehahodomfbpjaaDoor
/- Contracts of FrameText, as the model has it. Conditions: none. -/
namespace Go.Proofs.YtehahodomfbpjaaDoor
set_option linter.unusedVariables false
set_option maxRecDepth 100000
open Go.RowKit

/-- A text with its sum. -/
def sealS (s : ByteArray) : ByteArray := s ++ ⟨(sumD s).toArray⟩
def numsS (ns : List Nat) : ByteArray := ⟨(padAll ns).toArray⟩
theorem numsS_size (ns : List Nat) : (numsS ns).size = ns.length * 6 := by rw [ba_size]; exact padAll_len ns
theorem Own.new4 (w : World) (t : TypeId) (a b c d : Value) : Own (w.alloc (.cells #[a, b, c, d] t)) w.heap.size t 4 (fun i => #[a, b, c, d].getD i undef) :=
  ⟨_, heap_alloc_new w _, by simp, fun i hi => by
    match i, hi with
    | 0, _ => rfl
    | 1, _ => rfl
    | 2, _ => rfl
    | 3, _ => rfl⟩
end Go.Proofs.YtehahodomfbpjaaDoor
/- Contracts of the program's numbersText and sealed. Conditions: the numbers are from 0 to 999999, at least one and at most 1000; a text of at most 65536 bytes is sealed. -/
namespace Go.Proofs.YtehahodomfbpjaaDoor
set_option linter.unusedVariables false
set_option maxRecDepth 100000
open Go.RowKit

theorem Nx.of_below {a w w' : World} {b : Nat} (h : Nx a w) (k : Below b w w') (hb : a.heap.size ≤ b) : Nx a w' := Below.trans h (Below.mono k hb)
set_option maxHeartbeats 1000000 in
theorem numbersText_c (A : Option Addr) (c B : Nat) (ns : List Nat) (w : World) (h : Row w B A ns.length (intAt ns)) (hB : B ≤ w.heap.size) (h6 : All6 ns) (hn0 : 1 ≤ ns.length) (hn : ns.length ≤ 1000) :
    Calls Tryd.prog 35 #[.slice A ns.length c] w fun e w' => e = .returned (.string (numsS ns)) ∧ Nx w w' := by
  have hbd := Bd.new w
  go_enter Tryd.func35, Tryd.ntmps35
  go_wp2
  go_loopw [8] (fun i wr => ∃ k : Nat, k ≤ ns.length ∧ i = .int .i64 k ∧ Bd wr w.heap.size (padTo ns k) ∧ Nx w wr) (fun i _ => ns.length - (intOf i).toNat)
  case atStart => exact ⟨0, Nat.zero_le _, rfl, hbd, (Nx.refl _).alloc _⟩
  case round =>
    obtain ⟨k, hk, rfl, hb, hnx⟩ := hrel
    clear hbd
    by_cases hlt : k < ns.length
    · obtain ⟨b, off, rfl, hb2, hc0⟩ := (h.below hnx hB) (by omega)
      have hc := hc0 k hlt
      have hn6 := h6 k hlt
      have HP := Lib.hid (padTo_succ ns k hlt)
      have hL := padTo_len ns k hk
      clear hc0
      unfold intAt at hc
      obtain ⟨x, Hx⟩ : ∃ x, Hid (ns.getD k 0 = x) := ⟨_, rfl⟩
      rw [Hx.out] at hc hn6 HP
      have HL := Lib.hid hL
      clear hL
      go_wp2_with fail
      refine (padded_c x 6 _ hn6 (by omega) (by omega)).mono ?_
      rintro e w1 ⟨rfl, hnx1⟩
      go_wp2_with fail
      refine (writeString_c w.heap.size (padTo ns k) _ _ (hb.nx hnx1) (by rw [HL.out]; simp [ByteArray.size, pad_len]; omega)).mono ?_
      rintro e w2 ⟨rfl, hbd2, hbl⟩
      clear hc
      go_wp2
      go_roundw
      case rel => exact ⟨k + 1, by omega, by go_num, by rw [HP.out]; exact hbd2, (hnx.trans hnx1).of_below hbl (Nat.le_refl _)⟩
      case measure => simp [intOf]; omega
    · obtain rfl : k = ns.length := by omega
      have hne : padTo ns ns.length ≠ [] := fun e => by
        have := padTo_len ns ns.length (Nat.le_refl _)
        rw [e] at this
        simp at this
        omega
      go_wp2_with fail
      refine (string_c w.heap.size (padTo ns ns.length) _ hb hne).mono ?_
      rintro e w1 ⟨rfl, hbl⟩
      go_wp2
      go_ret
      exact ⟨ret_str (by rw [padTo_all]; rfl), hnx.of_below hbl (Nat.le_refl _)⟩

set_option maxHeartbeats 1000000 in
theorem sealed_c (s : ByteArray) (w : World) (hs : s.size ≤ 65536) : Calls Tryd.prog 34 #[.string s] w fun e w' => e = .returned (.string (sealS s)) ∧ Nx w w' := by
  obtain ⟨h0, h1⟩ := sumL_bd s.data.toList
  obtain ⟨q, hq⟩ : ∃ q : Nat, sumS s = (q : Int) := ⟨(sumS s).toNat, by have : 0 ≤ sumS s := h0; omega⟩
  have hq6 : q ≤ 996 := by have : sumS s ≤ 996 := h1; omega
  have HD := Lib.hid (show pad 3 q = sumD s by unfold sumD; rw [hq]; rfl)
  have HQ := Lib.hid hq
  clear hq
  go_enter Tryd.func34, Tryd.ntmps34
  go_wp2_with fail
  refine (implSumOf_c s _ (by unfold maxLen; omega)).mono ?_
  rintro e w1 ⟨rfl, rfl⟩
  rw [← sumOfS_yes hs, HQ.out]
  go_wp2_with fail
  refine (padded_c q 3 _ (by omega) (by omega) (by omega)).mono ?_
  rintro e w1 ⟨rfl, hnx1⟩
  obtain ⟨d, Hd⟩ : ∃ d : ByteArray, Hid ((⟨(pad 3 q).toArray⟩ : ByteArray) = d) := ⟨_, rfl⟩
  have hd6 : d.size ≤ 3 := by rw [← Hd.out]; simp [ByteArray.size, pad_len]
  rw [Hd.out]
  go_wp2
  go_ret
  exact ⟨ret_str (by unfold sealS; rw [← HD.out, Hd.out]), hnx1⟩
end Go.Proofs.YtehahodomfbpjaaDoor
/- Rows of numbers that grow, as values and in memory. Conditions: none. -/
namespace Go.Proofs.YtehahodomfbpjaaDoor
set_option linter.unusedVariables false
set_option maxRecDepth 100000
open Go.RowKit

end Go.Proofs.YtehahodomfbpjaaDoor
/- Numbers read back from digits: what they are, and the contracts of the program's numberOf and numbersOf, and of the model's l02Numbers. Conditions: texts of at most 65536 bytes; the package's errors are known. -/
namespace Go.Proofs.YtehahodomfbpjaaDoor
set_option linter.unusedVariables false
set_option maxRecDepth 100000
open Go.RowKit

/-- The package's two errors: a0 of a text that is none, a1 of one that is too long. -/
def Er (w : World) (a0 a1 : Addr) : Prop :=
  w.cell? ⟨0, 0, none⟩ = some (.iface 152 (.pointer (some a0))) ∧ w.cell? ⟨1, 0, none⟩ = some (.iface 152 (.pointer (some a1))) ∧ a0 ≠ a1 ∧
  (∃ ca ta, w.heap[a0.block]? = some (.cells ca ta (0, 0))) ∧ ∃ ca ta, w.heap[a1.block]? = some (.cells ca ta (0, 0))
theorem lt_of_heap {w : World} {g : Nat} {o : Obj} (h : w.heap[g]? = some o) : g < w.heap.size := by
  rcases Nat.lt_or_ge g w.heap.size with hlt | hge
  · exact hlt
  · rw [Array.getElem?_eq_none hge] at h; cases h
theorem Er.nx {w w' : World} {a0 a1 : Addr} (h : Er w a0 a1) (hb : Nx w w') : Er w' a0 a1 := by
  obtain ⟨h0, h1, hne, ⟨ca, ta, e0⟩, cb, tb, e1⟩ := h
  exact ⟨(hb.cell (p := ⟨0, 0, none⟩) (World.block_lt_of_cell? w _ h0)).trans h0, (hb.cell (p := ⟨1, 0, none⟩) (World.block_lt_of_cell? w _ h1)).trans h1, hne,
    ⟨ca, ta, (hb.block _ (lt_of_heap e0)).trans e0⟩, cb, tb, (hb.block _ (lt_of_heap e1)).trans e1⟩

end Go.Proofs.YtehahodomfbpjaaDoor
/- Texts parted at a byte: what the parts are, as the model's l00Cut and the library's Cut and Split have them. Conditions: none. -/
namespace Go.Proofs.YtehahodomfbpjaaDoor
set_option linter.unusedVariables false
set_option maxRecDepth 100000
open Go.RowKit

end Go.Proofs.YtehahodomfbpjaaDoor
/- Contracts of the program's numbersOf and of the model's l02Numbers: the numbers of a text of digits. Conditions: texts of at most 65536 bytes; the package's errors are known. -/
namespace Go.Proofs.YtehahodomfbpjaaDoor
set_option linter.unusedVariables false
set_option maxRecDepth 100000
open Go.RowKit

end Go.Proofs.YtehahodomfbpjaaDoor
/- Contract of the model's l02Numbers: the numbers of a text of digits. Conditions: texts of at most 65536 bytes. -/
namespace Go.Proofs.YtehahodomfbpjaaDoor
set_option linter.unusedVariables false
set_option maxRecDepth 100000
open Go.RowKit

end Go.Proofs.YtehahodomfbpjaaDoor
/- Contracts of the program's unsealed and sealedNumbers, and of the model's l02Open: texts whose sum is right. Conditions: texts of at most 1048576 bytes; the package's errors are known. -/
namespace Go.Proofs.YtehahodomfbpjaaDoor
set_option linter.unusedVariables false
set_option maxRecDepth 100000
open Go.RowKit

theorem l02Seal_s (s : ByteArray) (w : World) (hs : s.size ≤ 1048576) : Calls Tryd.prog 58 #[.string s] w fun e w' => e = .returned (.string (sealS s)) ∧ Nx w w' := l02Seal_c s w hs

end Go.Proofs.YtehahodomfbpjaaDoor
/- A frame that comes in, opened. Conditions: none. -/
namespace Go.Proofs.YtehahodomfbpjaaDoor
set_option linter.unusedVariables false
set_option maxRecDepth 100000
open Go.Joins Go.ChangeShapes Go.WideShapes Go.RowKit Go.Deep
theorem ci_ : Tryd.prog.cellsOf 3 = 1 := by kernel_rfl
section
variable {H : Type} {enc : TypeId × Value → H} {w : World} {base : Nat} {spare : Nat → Bool} {held : Bool}
end
end Go.Proofs.YtehahodomfbpjaaDoor
/- A list of ints that comes in, opened. Conditions: none. -/
namespace Go.Proofs.YtehahodomfbpjaaDoor
set_option linter.unusedVariables false
set_option maxRecDepth 100000
open Go.Joins Go.ChangeShapes Go.WideShapes Go.RowKit Go.Deep
theorem addr_plain_i {w : World} {a : Addr} {v : Value} (h : w.cell? (a.add 0) = some v) : ∃ b off, a = ⟨b, off, none⟩ ∧ b < w.heap.size := by
  have h' : w.cell? a = some v := by simpa [Addr.add] using h
  have hs := World.cell?_spot h'
  obtain ⟨b, off, sp⟩ := a
  simp only at hs
  subst hs
  exact ⟨b, off, rfl, World.block_lt_of_cell? w _ h'⟩
theorem addr_add_i (b off i : Nat) : (Addr.mk b off none).add i = ⟨b, off + i, none⟩ := by
  unfold Addr.add
  by_cases h : i = 0
  · subst h; simp
  · simp [h]
theorem open_ints {H : Type} {enc : TypeId × Value → H} {w : World} {base : Nat} {spare : Nat → Bool} {held : Bool} {r : Reach} {b0 : Nat} {v : Value} {d : DataW H} {p : List MemPlace}
    (hv : Value.okWide Tryd.prog w r b0 22 v) (h : DataW.Trod enc Tryd.prog w base spare held 22 v d p) :
    ∃ (A : Option Addr) (c : Nat) (xs : List Int), v = .slice A xs.length c ∧ Ins w w.heap.size A xs ∧ (∀ k, k < xs.length → (Lit.int .i64 (xs.getD k 0)).wf = true) ∧ xs.length ≤ 2 ^ 63 - 1 := by
  obtain ⟨a0, len0, cap0, rfl⟩ := okWide_slice Tryd.underlying22 hv
  obtain ⟨fuel, hf⟩ := h
  rcases open_slice Tryd.underlying22 hf with ⟨hcs, _⟩ | ⟨a, len, cap, m, n, D, Pl, hcs, _, hl, hm, hmm, _, hi⟩
  · simp [Value.cells] at hcs
    obtain ⟨rfl, rfl, rfl⟩ := hcs
    exact ⟨none, 0, [], rfl, fun hn => absurd hn (by simp), fun k hk => absurd hk (by simp), by simp⟩
  · simp [Value.cells] at hcs
    obtain ⟨rfl, rfl, rfl⟩ := hcs
    have hle : len0 ≤ m := by rw [hmm]; split <;> omega
    unfold maxLen at hm
    have key : ∀ i, ∃ q : Int, i < m → w.cell? (a.add i) = some (.int .i64 q) ∧ (Lit.int .i64 q).wf = true := by
      intro i
      by_cases him : i < m
      · obtain ⟨cs', hc, ht⟩ := hi i him
        rw [ci_, Nat.mul_one] at hc
        obtain ⟨_, hcl, hat⟩ := World.cells?_some hc
        obtain ⟨q, e, _, hw⟩ := DataW.trod_int (k := .i64) Tryd.underlying3 ht
        subst e
        refine ⟨q, fun _ => ⟨?_, hw⟩⟩
        have := hat 0 (by omega)
        simpa [Addr.add] using this
      · exact ⟨0, fun h => absurd h him⟩
    obtain ⟨g, hg⟩ := Classical.skolem.1 key
    have hget : ∀ k, k < len0 → ((List.range len0).map g).getD k 0 = g k := by
      intro k hk
      rw [List.getD_eq_getElem?_getD, List.getElem?_map, List.getElem?_range hk]; rfl
    have hlen : ((List.range len0).map g).length = len0 := by simp
    refine ⟨some a, cap0, (List.range len0).map g, by rw [hlen], fun hn => ?_, fun k hk => ?_, by simp; omega⟩
    · rw [hlen] at hn
      obtain ⟨b, off, rfl, hb⟩ := addr_plain_i (hg 0 (by omega)).1
      refine ⟨b, off, rfl, hb, fun i hi => ?_⟩
      rw [hlen] at hi
      have h1 := (hg i (by omega)).1
      rw [addr_add_i] at h1
      rw [h1]
      unfold inAt
      rw [hget i hi]
    · rw [hlen] at hk
      rw [hget k hk]
      exact (hg k (by omega)).2
end Go.Proofs.YtehahodomfbpjaaDoor
/- Words on marks and supers: lists of marks in memory; contracts of the laws' functions that count, make and compare them; a super that comes in, opened. Conditions: what is counted, copied or compared can be read; copied and compared: it has at most 1048576 elements of a kind. -/
namespace Go.Proofs.YtehahodomfbpjaaDoor
set_option linter.unusedVariables false
set_option maxRecDepth 100000
open Go.Joins Go.ChangeShapes Go.WideShapes Go.RowKit Go.Deep

/-- A mark: its name, its position. -/
abbrev Mrk := ByteArray × Int
def mrZ : Mrk := (ByteArray.empty, 0)
def mrAt (ms : List Mrk) (i : Nat) : Value := if i % 2 = 0 then .string (ms.getD (i / 2) mrZ).1 else .int .i64 (ms.getD (i / 2) mrZ).2
theorem mrAt0 (ms : List Mrk) (k : Nat) : mrAt ms (k * 2) = .string (ms.getD k mrZ).1 := by
  unfold mrAt; rw [if_pos (by omega), show k * 2 / 2 = k by omega]
theorem mrAt1 (ms : List Mrk) (k : Nat) : mrAt ms (k * 2 + 1) = .int .i64 (ms.getD k mrZ).2 := by
  unfold mrAt; rw [if_neg (by omega), show (k * 2 + 1) / 2 = k by omega]
/-- A list of marks that is read. -/
def Mks (w : World) (B : Nat) (A : Option Addr) (ms : List Mrk) : Prop := Row w B A (ms.length * 2) (mrAt ms)
theorem Mks.below {w w' : World} {B B' : Nat} {A : Option Addr} {ms : List Mrk} (h : Mks w B A ms) (hb : Below B' w w') (hB : B ≤ B') : Mks w' B A ms := Row.below h hb hB
theorem Mks.at_ {w : World} {B k : Nat} {A : Option Addr} {ms : List Mrk} (h : Mks w B A ms) (hk : k < ms.length) :
    ∃ b off, A = some ⟨b, off, none⟩ ∧ b < B ∧ w.cell? ⟨b, off + k * 2, none⟩ = some (.string (ms.getD k mrZ).1) ∧ w.cell? ⟨b, off + k * 2 + 1, none⟩ = some (.int .i64 (ms.getD k mrZ).2) := by
  obtain ⟨b, off, e, hb, hc⟩ := h (by omega)
  have h0 := hc (k * 2) (by omega)
  have h1 := hc (k * 2 + 1) (by omega)
  rw [mrAt0] at h0
  rw [mrAt1] at h1
  exact ⟨b, off, e, hb, h0, h1⟩
theorem Box.d6 {w : World} {g : Nat} {t : TypeId} {v0 v1 v2 v3 v4 v5 : Value} (h : Box w g t #[v0, v1, v2, v3, v4, v5]) :
    w.cell? ⟨g, 0, none⟩ = some v0 ∧ w.cell? ⟨g, 1, none⟩ = some v1 ∧ w.cell? ⟨g, 2, none⟩ = some v2 ∧ w.cell? ⟨g, 3, none⟩ = some v3 ∧ w.cell? ⟨g, 4, none⟩ = some v4 ∧ w.cell? ⟨g, 5, none⟩ = some v5 :=
  ⟨h.cell 0, h.cell 1, h.cell 2, h.cell 3, h.cell 4, h.cell 5⟩

section
variable {H : Type} {enc : TypeId × Value → H} {w : World} {base : Nat} {spare : Nat → Bool} {held : Bool}
end
end Go.Proofs.YtehahodomfbpjaaDoor
/- Contracts of the laws' functions that make and compare supers; a super that comes in, opened; what a super is, and contracts of names of marks and of looking a number up in a list. Conditions: what is read can be read, and holds at most 1048576 elements of a kind. -/
namespace Go.Proofs.YtehahodomfbpjaaDoor
set_option linter.unusedVariables false
set_option maxRecDepth 100000
open Go.Joins Go.ChangeShapes Go.WideShapes Go.RowKit Go.Deep

section
variable {H : Type} {enc : TypeId × Value → H} {w : World} {base : Nat} {spare : Nat → Bool} {held : Bool}
end

/-! What a super is. -/
def letB (s : ByteArray) (k : Nat) : Bool := decide (97 ≤ (s.data.toList.getD k 0).toNat) && decide ((s.data.toList.getD k 0).toNat ≤ 122)
/-- A mark's name. -/
def nmB (s : ByteArray) : Bool := inB 1 6 s.size && (List.range s.size).all (letB s)
def LetTo (s : ByteArray) (k : Nat) : Prop := ∀ j, j < k → letB s j = true
theorem LetTo.zero (s : ByteArray) : LetTo s 0 := fun j h => absurd h (by omega)
theorem LetTo.succ {s : ByteArray} {k : Nat} (h : LetTo s k) (hk : letB s k = true) : LetTo s (k + 1) := fun j hj => by
  rcases Nat.lt_or_ge j k with hlt | hge
  · exact h j hlt
  · obtain rfl : j = k := by omega
    exact hk
/-! A number that is looked up in the first n of a list. -/
def hasB (xs : List Int) (n : Nat) (x : Int) : Bool := (xs.take n).contains x
def NotTo (xs : List Int) (k : Nat) (x : Int) : Prop := ∀ j, j < k → xs.getD j 0 ≠ x
theorem NotTo.zero (xs : List Int) (x : Int) : NotTo xs 0 x := fun j h => absurd h (by omega)
theorem NotTo.succ {xs : List Int} {k : Nat} {x : Int} (h : NotTo xs k x) (hk : xs.getD k 0 ≠ x) : NotTo xs (k + 1) x := fun j hj => by
  rcases Nat.lt_or_ge j k with hlt | hge
  · exact h j hlt
  · obtain rfl : j = k := by omega
    exact hk
end Go.Proofs.YtehahodomfbpjaaDoor
/- What a super is; contracts of SuperOK, as the model has it. Conditions: the super can be read, and holds at most 1048576 elements of a kind; its table is no longer than its capacity. -/
namespace Go.Proofs.YtehahodomfbpjaaDoor
set_option linter.unusedVariables false
set_option maxRecDepth 100000
open Go.RowKit

def tbOk (xs : List Int) (k : Nat) : Bool := inB 10 63 (xs.getD k 0) && !hasB xs k (xs.getD k 0)
def tbB (xs : List Int) : Bool := decide (xs.length ≤ 20) && (List.range xs.length).all (tbOk xs)
def TbTo (xs : List Int) (k : Nat) : Prop := ∀ j, j < k → tbOk xs j = true
theorem TbTo.zero (xs : List Int) : TbTo xs 0 := fun j h => absurd h (by omega)
theorem TbTo.succ {xs : List Int} {k : Nat} (h : TbTo xs k) (hk : tbOk xs k = true) : TbTo xs (k + 1) := fun j hj => by
  rcases Nat.lt_or_ge j k with hlt | hge
  · exact h j hlt
  · obtain rfl : j = k := by omega
    exact hk
theorem tbB_yes {xs : List Int} (h : tbB xs = true) : xs.length ≤ 20 ∧ TbTo xs xs.length := by
  unfold tbB at h
  simp only [Bool.and_eq_true, decide_eq_true_eq] at h
  exact ⟨h.1, fun j hj => List.all_eq_true.1 h.2 j (by simpa using hj)⟩
def mkB (m : Mrk) : Bool := nmB m.1 && inB 0 999999 m.2
def okMk (ms : List Mrk) (k : Nat) : Bool := mkB (ms.getD k mrZ) && (k == 0 || Op.bytesLess (ms.getD (k - 1) mrZ).1.toList (ms.getD k mrZ).1.toList)
def msB (ms : List Mrk) : Bool := decide (ms.length ≤ 4) && (List.range ms.length).all (okMk ms)
def MkTo (ms : List Mrk) (k : Nat) : Prop := ∀ j, j < k → okMk ms j = true
theorem MkTo.zero (ms : List Mrk) : MkTo ms 0 := fun j h => absurd h (by omega)
theorem MkTo.succ {ms : List Mrk} {k : Nat} (h : MkTo ms k) (hk : okMk ms k = true) : MkTo ms (k + 1) := fun j hj => by
  rcases Nat.lt_or_ge j k with hlt | hge
  · exact h j hlt
  · obtain rfl : j = k := by omega
    exact hk
theorem msB_yes {ms : List Mrk} (h : msB ms = true) : ms.length ≤ 4 ∧ MkTo ms ms.length := by
  unfold msB at h
  simp only [Bool.and_eq_true, decide_eq_true_eq] at h
  exact ⟨h.1, fun j hj => List.all_eq_true.1 h.2 j (by simpa using hj)⟩
/-- What a super is. -/
def superB (g b p t : Int) (xs : List Int) (ms : List Mrk) : Bool := inB 1 999999 g && inB 0 999999 b && inB b 999999 p && inB b 999999 t && tbB xs && msB ms
end Go.Proofs.YtehahodomfbpjaaDoor
/- The super of a text: its words, its marks, as the model has it and as the program has it (values alone). Conditions: none. -/
namespace Go.Proofs.YtehahodomfbpjaaDoor
set_option linter.unusedVariables false
set_option maxRecDepth 100000
open Go.RowKit

end Go.Proofs.YtehahodomfbpjaaDoor
/- A text with its sum is read back: the numbers of the text of numbers are those numbers. Conditions: none. -/
namespace Go.Proofs.YtehahodomfbpjaaDoor
set_option linter.unusedVariables false
set_option maxRecDepth 100000
open Go.RowKit

end Go.Proofs.YtehahodomfbpjaaDoor
/- Contracts of SuperOK, as the program has it. Conditions: the super can be read, and holds at most 1048576 elements of a kind; its table is no longer than its capacity. -/
namespace Go.Proofs.YtehahodomfbpjaaDoor
set_option linter.unusedVariables false
set_option maxRecDepth 100000
open Go.RowKit

end Go.Proofs.YtehahodomfbpjaaDoor
